/- Package sound as it landed: Judge. -/
import Derived.Test.YtfgimobmaahmmaaSoundDev3
import Derived.Test.YtfgimobmaahmmaaGr07
import Derived.Test.YtfgimobmaahmmaaShapeDev
import Derived.Test.YtfgimobmaahmmaaReachDev
namespace Go.Proofs.Ytfgimobmaahmmaa
open Go.RowKit
set_option linter.unusedVariables false
set_option maxRecDepth 4000

theorem Ints.put_verd0 {w : World} {av : Value} {b : Nat} {xs : List Int} {k t : Int} {u : Value} {d : Option Addr} {l c : Nat} (hI : Ints w av xs) (hl : 2 ≤ xs.length ∨ xs = []) (h : VerdAt w b (.int .i64 k) (.slice d l c) (.int .i64 t)) (k' t' : Value) (ht : xs = [] ∨ t' = .int .i64 t) :
    Ints (((w.setCell ⟨b, 0, none⟩ k').setCell ⟨b, 1, none⟩ u).setCell ⟨b, 2, none⟩ t') av xs := by
  rcases hl with hl | rfl
  · rcases ht with rfl | rfl
    · simp at hl
    · exact hI.put_verd hl h k'
  · obtain ⟨a, len, cap, e, hlen, hm, hsh, hr⟩ := hI
    exact ⟨a, len, cap, e, hlen, hm, hsh, fun j hj => absurd hj (Nat.not_lt_zero _)⟩

theorem says_tran {n : NetL} {E : List Int} {s : SpaceL} {x : VerdL} (h : SaysV n E s x) : x.at_ = [] ∨ x.tran = 0 := by
  rcases h.cases with ⟨j, _, _, _, e⟩ | ⟨_, j, _, _, _, e⟩ | ⟨_, _, t, ts, _, e⟩ | ⟨_, _, _, e⟩
  · rw [e]; exact .inr rfl
  · rw [e]; exact .inr rfl
  · rw [e]; exact .inl rfl
  · rw [e]; exact .inl rfl

theorem says_tran' {n : NetL} {E : List Int} {s : SpaceL} {x : VerdL} (h : SaysV n E s x) : x.at_ = [] ∨ Value.int .i64 x.tran = .int .i64 0 := by
  rcases says_tran h with e | e
  · exact .inl e
  · rw [e]; exact .inr rfl
theorem put_keep {w : World} {b g off : Nat} {v : Value} (x y z : Value) (hne : b ≠ g) (h : w.cell? ⟨b, off, none⟩ = some v) : (((w.setCell ⟨g, 0, none⟩ x).setCell ⟨g, 1, none⟩ y).setCell ⟨g, 2, none⟩ z).cell? ⟨b, off, none⟩ = some v := by
  have hn : ∀ j, (⟨g, j, none⟩ : Addr) ≠ ⟨b, off, none⟩ := fun j e => by injection e with e1; exact hne e1.symm
  rw [World.cell?_setCell_other _ _ _ _ (hn _), World.cell?_setCell_other _ _ _ _ (hn _), World.cell?_setCell_other _ _ _ _ (hn _)]
  exact h

set_option maxHeartbeats 4000000 in
theorem sound_judge (v : Value) (n : NetL) (i o most : Int) (w : World) (hv : Net w v n) :
    Calls Try.prog 12 #[v, .int .i64 i, .int .i64 o, .int .i64 most] w fun e w' => ∃ r x d, e = .returned (.tuple #[r, .int .i64 d]) ∧ (VerdV w' r x ∧ Verd n i o most x d) ∧ Below w.heap.size w w' := by
  obtain ⟨tv, rfl, hT⟩ := hv
  obtain ⟨w0, Hw0⟩ : ∃ w0, Hid ((w.alloc (.cells #[.int .i64 n.places, tv] 27)).alloc (.cells #[.int .i64 0, .slice none 0 0, .int .i64 0] 37) = w0) := ⟨_, rfl⟩
  have b1 := below_new w (.cells #[.int .i64 n.places, tv] 27)
  have b2 := below_new (w.alloc (.cells #[.int .i64 n.places, tv] 27)) (.cells #[.int .i64 0, .slice none 0 0, .int .i64 0] 37)
  have c : Below w.heap.size w w0 := by rw [← Hw0.out]; exact below_then b1 b2
  have hbx : Box2 w0 w.heap.size (.int .i64 n.places) tv := by rw [← Hw0.out]; exact (box2_new w _ tv 27).below b2
  have hva : VerdAt w0 (w.heap.size + 1) (.int .i64 0) (.slice none 0 0) (.int .i64 0) := by
    rw [← Hw0.out]
    have e : (w.alloc (.cells #[.int .i64 n.places, tv] 27)).heap.size = w.heap.size + 1 := by simp
    rw [← e]
    exact heap_alloc_at _ _
  have hv : Net w0 (.agg #[.int .i64 n.places, tv]) n := ⟨_, rfl, hT.below c⟩
  clear b1 b2
  obtain ⟨x0, x1, x2⟩ := id hbx
  go_enter Try.func12, Try.ntmps12
  go_upto_region 1 with fail
  rw [Hw0.out]
  clear Hw0
  go_wp2_with fail
  clear x0 x1 x2
  refine (shape_wrong _ n i o _ (by exact hv)).mono ?_
  rintro e w1 ⟨d, rfl, hd, b⟩
  replace hbx := hbx.below b
  replace hva := hva.below b
  replace hv := hv.below b
  replace c := below_then c b
  clear b
  by_cases hd0 : d = 0
  · subst hd0
    have hS := hd.zero
    have HS : Hid (ShapeOk n i o) := hS
    clear hd
    obtain ⟨x0, x1, x2⟩ := id hbx
    go_upto_region 4 with fail
    have hdr : Below w1.heap.size w1 w1.drew := (Below.refl _ _).drew
    have hvd := hv.below hdr
    have hvn := hvd.below (below_new w1.drew (.cells #[.slice none 0 0, .slice none 0 0] 71))
    have Hne : Hid (startL n.places i ≠ []) := by intro e; have h1 := start_len hS.ok i; have h2 := shape_two hS; rw [e] at h1; simp at h1; omega
    obtain ⟨G, HG⟩ : ∃ G, Hid (graphL n (startL n.places i) most = G) := ⟨_, rfl⟩
    have Hfl : Hid (∀ j, j < G.1.marks.length → markAt G.1.marks j ≠ []) := by have := graph_full (n := n) (most := most) Hne.out; rw [HG.out] at this; exact this
    go_cut [11, 12] (fun p q wc => ∃ bx mv av, p = .pointer (some ⟨bx, 0, none⟩) ∧ q = .int .i64 G.2 ∧ Box2 wc bx mv av ∧ Space wc (.agg #[mv, av]) G.1 ∧ Below w1.heap.size w1 wc)
    case first =>
      go_region_held3 (fun w' => w'.cell? ⟨w.heap.size, 0, none⟩ = some (.int .i64 n.places) ∧ w'.cell? ⟨w.heap.size, 1, none⟩ = some tv)
        (first | exact ⟨f1, f2⟩ | go_keep)
        (first
          | (go_at_call 15; refine (shape_start_own _ n i _ ?_).mono ?_; (first | exact hvd | exact hvn); rintro e w2 ⟨r1, rfl, hOn, hOb⟩; have hI := hOn.now; (first | (have hnb : NilBox w2 w1.heap.size := (nilBox_new w1.drew).below hOb; have q2 := below_then (below_then hdr (below_new w1.drew (.cells #[.slice none 0 0, .slice none 0 0] 71))) hOb) | (have q2 := below_then hdr hOb)); have hv2 := hv.below q2; obtain ⟨y0, y1, y2⟩ := hbx.below q2)
          | (go_at_call 30; refine (reach_graph _ _ n (startL n.places i) most _ ?_ ?_).mono ?_; (first | exact hv2 | exact hv2.below (below_new w2 (.cells #[.slice none 0 0, .slice none 0 0] 71))); (first | exact hI | exact hI.below (below_new w2 (.cells #[.slice none 0 0, .slice none 0 0] 71))); rw [HG.out]; rintro e w3 ⟨r2, rfl, hSp, b3⟩; (first | (have hnb3 := (nilBox_new w2).below b3; have q3 := below_then q2 (below_then (below_new w2 (.cells #[.slice none 0 0, .slice none 0 0] 71)) b3); have hlt3 : w.heap.size < w2.heap.size := y0) | (have hnb3 := hnb.below b3; have q3 := below_then q2 b3; have hlt3 : w.heap.size < w1.heap.size := x0) | (have q3 := below_then q2 b3)); obtain ⟨mv, av, rfl, hMv, hAv⟩ := id hSp; obtain ⟨am, cm, rfl, _, _⟩ := hMv.slice; obtain ⟨aa, ca, hav, _⟩ := hAv.slice; rw [List.length_map] at hav; subst hav; obtain ⟨z0, z1, z2⟩ := hbx.below q3; (first | (obtain ⟨n0, n1, n2, n3, n4⟩ := hnb3.at; have hf := hnb3.fill hSp Hfl.out; have f1 := (hf.2.2.cell (p := ⟨w.heap.size, 0, none⟩) hlt3).trans z1; have f2 := (hf.2.2.cell (p := ⟨w.heap.size, 1, none⟩) hlt3).trans z2) | skip)))
      all_goals
        go_wp2_with fail
        go_meet
        first
          | exact ⟨_, _, _, rfl, rfl, hf.2.1, hf.1, q3.trans (hf.2.2.mono (Nat.le_refl _))⟩
          | exact ⟨_, _, _, rfl, rfl, hf.2.1, hf.1, q3.trans (hf.2.2.mono q2.size)⟩
          | exact ⟨_, _, _, rfl, rfl, box2_new w3 _ _ _, hSp.below (below_new w3 _), below_then q3 (below_new w3 _)⟩
    obtain ⟨bx, mv, av, rfl, rfl, hbs, hSp, b4⟩ := hcut
    obtain ⟨w4, rfl⟩ : ∃ w0, w0 = wc := ⟨_, rfl⟩
    replace hbx := hbx.below b4
    replace hva := hva.below b4
    replace hv := hv.below b4
    replace c := below_then c b4
    clear hvd hvn hdr b4 x0 x1 x2 Hne
    obtain ⟨s, dg⟩ := G
    simp only at hSp Hfl ⊢
    by_cases hg0 : dg = 0
    · subst hg0
      clear Hfl
      have HW : Hid (Whole n (startL n.places i) s) := graphL_whole HG.out
      have HV : Hid (∀ x, SaysV n (startL n.places o) s x → Verd n i o most x 0) := fun x hx => verd_right HS.out HG.out hx
      have Hl2 : Hid (∀ j, j < s.marks.length → 2 ≤ (markAt s.marks j).length) := fun j hj => by have := (fits_net (HW.out.fits hj)).2.1; have := shape_two HS.out; omega
      have Hsm : Hid (s.marks.length ≤ 300) := by have := graphL_small n (startL n.places i) most; rw [HG.out] at this; exact this
      have HEl : Hid (((startL n.places o).length : Int) = n.places) := by have := start_len HS.out.ok o; show _ = _; omega
      obtain ⟨x0, x1, x2⟩ := id hbx
      obtain ⟨y0, y1, y2⟩ := id hbs
      obtain ⟨hMk, hAk⟩ : Lists w4 mv s.marks ∧ Arcs w4 av (s.arcs.map arcZ) := by obtain ⟨mv', av', e, h1, h2⟩ := hSp; injection e with e; injection e with e; simp at e; obtain ⟨rfl, rfl⟩ := e; exact ⟨h1, h2⟩
      obtain ⟨am, cm, rfl, _, _⟩ := hMk.slice
      obtain ⟨aa, ca, rfl, _⟩ := hAk.slice
      obtain ⟨ta, lt, tc, rfl, hlt, _⟩ := id hT
      have Hlt : Hid (n.trans.length = lt) := hlt
      clear hMk hAk hlt
      have hdr : Below w4.heap.size w4 w4.drew := (Below.refl _ _).drew
      have hvd := hv.below hdr
      obtain ⟨lm, Hlm⟩ : ∃ lm, Hid (s.marks.length = lm) := ⟨_, rfl⟩
      obtain ⟨la, Hla⟩ : ∃ la, Hid ((s.arcs.map arcZ).length = la) := ⟨_, rfl⟩
      rw [Hlm.out] at y1 hSp hbs
      rw [Hla.out] at y2 hSp hbs
      obtain ⟨E, HE⟩ : ∃ E, Hid (startL n.places o = E) := ⟨_, rfl⟩
      rw [HE.out] at HV HEl
      have hbne : bx ≠ w.heap.size + 1 := by rintro rfl; have := hva.cells.1; rw [hbs.2.1] at this; cases this
      have hwne : w.heap.size ≠ w.heap.size + 1 := by omega
      go_upto_region 7 with fail
      go_region_held3 (fun w' => w'.cell? ⟨w.heap.size, 0, none⟩ = some (.int .i64 n.places) ∧ w'.cell? ⟨w.heap.size, 1, none⟩ = some (.slice ta lt tc) ∧ w'.cell? ⟨bx, 0, none⟩ = some (.slice am lm cm) ∧ w'.cell? ⟨bx, 1, none⟩ = some (.slice aa la ca))
        (first | exact ⟨g1, g2, g3, g4⟩ | go_keep)
        (first
          | (go_at_call 15; refine (shape_start_own _ n o _ (by exact hvd)).mono ?_; rintro e w5 ⟨r1, rfl, hOn, hOb⟩; have hI := hOn.now; rw [HE.out] at hI; have q5 := below_then hdr hOb; obtain ⟨p0, p1, p2⟩ := hbx.below q5; obtain ⟨s0, s1, s2⟩ := hbs.below q5)
          | (go_at_call 31; rw [← Hlt.out]; refine (judged_any _ _ n (startL n.places i) E s _ (by exact hSp.below q5) (by exact hI) HW.out HEl.out Hsm.out).mono ?_; rintro e w6 ⟨r2, x, rfl, hVv, hSy, b6⟩; rw [Hlt.out]; have q6 := below_then q5 b6; have hva6 := hva.below q6; obtain ⟨xv, rfl, hXv⟩ := hVv; obtain ⟨ax, lx, cx, rfl, _⟩ := id hXv; obtain ⟨k1, k2, k3, kf⟩ := hva6.cells; have kf0 := kf 0; have kf1 := kf 1; have kf2 := kf 2; obtain ⟨p0', p1', p2'⟩ := hbx.below q6; obtain ⟨s0', s1', s2'⟩ := hbs.below q6; have g1 := put_keep (.int .i64 x.kind) (.slice ax lx cx) (.int .i64 x.tran) hwne p1'; have g2 := put_keep (.int .i64 x.kind) (.slice ax lx cx) (.int .i64 x.tran) hwne p2'; have g3 := put_keep (.int .i64 x.kind) (.slice ax lx cx) (.int .i64 x.tran) hbne s1'; have g4 := put_keep (.int .i64 x.kind) (.slice ax lx cx) (.int .i64 x.tran) hbne s2'))
      all_goals
        obtain ⟨W, HWw, z1, z2, z3, bz⟩ := hva6.put (.int .i64 x.kind) (.slice ax lx cx) (.int .i64 x.tran)
        have R2 : Below w.heap.size w W := (below_then c q6).trans (bz.mono (by omega))
        have HI := hXv.put_verd0 (u := .slice ax lx cx) (says_at hSy Hl2.out) hva6 (.int .i64 x.kind) (.int .i64 x.tran) (says_tran' hSy)
        rw [HWw.out] at HI
        have R := HV.out x hSy
        rw [HWw.out]
        clear hva hv hbx c hSp hbs HG g1 g2 g3 g4 hva6 hXv
        go_wp2_with fail
        exact bodyPost_ret (v := .tuple #[.agg #[.int .i64 x.kind, .slice ax lx cx, .int .i64 x.tran], .int .i64 0]) (results_verd rfl rfl rfl z1 z2 z3) rfl ⟨_, x, _, rfl, ⟨⟨_, rfl, HI⟩, R⟩, R2⟩
    · have hdd : (dg != 0) = true := by simpa using hg0
      have HV : Hid (Verd n i o most ⟨0, [], 0⟩ dg) := by have := verd_full (i := i) (o := o) (most := most) HS.out (by rw [HG.out]; exact hg0); rw [HG.out] at this; exact this
      obtain ⟨q1, q2, q3, qf⟩ := hva.cells
      have qf0 := qf 0
      have qf1 := qf 1
      have qf2 := qf 2
      obtain ⟨W, HW, z1, z2, z3, bz⟩ := hva.put (.int .i64 0) (.slice none 0 0) (.int .i64 0)
      have R : Below w.heap.size w W := c.trans (bz.mono (by omega))
      clear hva hv hg0 bz hbx c qf hSp hbs HG Hfl
      go_wp2_with fail
      rw [HW.out]
      exact bodyPost_ret (v := .tuple #[.agg #[.int .i64 0, .slice none 0 0, .int .i64 0], .int .i64 dg]) (results_verd rfl rfl rfl z1 z2 z3) rfl ⟨_, _, _, rfl, ⟨verd_none _, HV.out⟩, R⟩
  · have hdd : (d != 0) = true := by simpa using hd0
    have HV : Hid (Verd n i o most ⟨0, [], 0⟩ d) := ⟨fun _ => ⟨hd, rfl⟩, fun hs => absurd hs (hd.not_zero hd0), fun hs => absurd hs (hd.not_zero hd0)⟩
    obtain ⟨q1, q2, q3, qf⟩ := hva.cells
    have qf0 := qf 0
    have qf1 := qf 1
    have qf2 := qf 2
    obtain ⟨W, HW, z1, z2, z3, bz⟩ := hva.put (.int .i64 0) (.slice none 0 0) (.int .i64 0)
    have R : Below w.heap.size w W := c.trans (bz.mono (by omega))
    clear hva hv hd hd0 bz hbx c qf
    go_wp2_with fail
    rw [HW.out]
    exact bodyPost_ret (v := .tuple #[.agg #[.int .i64 0, .slice none 0 0, .int .i64 0], .int .i64 d]) (results_verd rfl rfl rfl z1 z2 z3) rfl ⟨_, _, _, rfl, ⟨verd_none _, HV.out⟩, R⟩

end Go.Proofs.Ytfgimobmaahmmaa
