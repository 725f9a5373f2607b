/- Package reach as it landed: all marks, and the way to one of them. -/
import Derived.Test.YtkdbkoogcndlgaaReachDev4
import Derived.Test.YtkdbkoogcndlgaaSlices3
namespace Go.Proofs.Ytkdbkoogcndlgaa
open Go.RowKit Go.Maps
set_option linter.unusedVariables false
set_option maxRecDepth 4000

theorem map_below {w w' : World} {b c : Nat} {D : DataW Unit} (h : w.ownsMap Try.prog 68 (plainElem Try.prog 3) b c D) (hb : Below w.heap.size w w') : w'.ownsMap Try.prog 68 (plainElem Try.prog 3) b c D := by
  obtain ⟨es, cl, h1, h2⟩ := h
  exact ⟨es, cl, by rw [hb.block b (Array.getElem?_eq_some_iff.1 h1).1]; exact h1, h2⟩

theorem fits_places (n : NetL) (m : List Int) : n.places = (n.places.toNat : Int) ∨ fitsL n m = false := by
  cases h : fitsL n m
  · exact .inr rfl
  · left
    have h1 := (fits_net h).2.1
    omega

theorem space_none (w : World) : Space w (.agg #[.slice none 0 0, .slice none 0 0]) ⟨[], []⟩ :=
  ⟨_, _, rfl, ⟨none, 0, 0, rfl, rfl, by omega, ⟨by omega, by omega, fun _ => rfl⟩, fun j hj => absurd hj (by simp)⟩, ⟨none, 0, 0, rfl, rfl, by omega, ⟨by omega, by omega, fun _ => rfl⟩, fun j hj => absurd hj (by simp)⟩⟩

theorem box2_block {w : World} {b : Nat} {t : TypeId} {u0 u1 : Value} (h : w.heap[b]? = some (.cells #[u0, u1] t (0, 0))) : Box2 w b u0 u1 ∧ ∀ j, w.frozen? ⟨b, j, none⟩ = false := by
  refine ⟨⟨(Array.getElem?_eq_some_iff.1 h).1, ?_, ?_⟩, fun j => ?_⟩
  all_goals simp [World.cell?, World.frozen?, h]

set_option maxHeartbeats 1000000 in
theorem reach_graph (v u : Value) (n : NetL) (m : List Int) (most : Int) (w : World) (hv : Net w v n) (hu : Ints w u m) :
    Calls Try.prog 19 #[v, u, .int .i64 most] w fun e w' => GivesS w (graphL n m most) e w' := by
  obtain ⟨tv, rfl, hT⟩ := hv
  have c1 := below_new w (.cells #[.int .i64 n.places, tv] 24)
  have c2 := below_new (w.alloc (.cells #[.int .i64 n.places, tv] 24)) (.cells #[.slice none 0 0, .slice none 0 0] 46)
  have b0 := below_then c1 c2
  have hbx := (box2_new w (.int .i64 n.places) tv 24).below c2
  have hres := heap_alloc_new (w.alloc (.cells #[.int .i64 n.places, tv] 24)) (.cells #[.slice none 0 0, .slice none 0 0] 46)
  have e1 : (w.alloc (.cells #[.int .i64 n.places, tv] 24)).heap.size = w.heap.size + 1 := by simp
  have e2 : ((w.alloc (.cells #[.int .i64 n.places, tv] 24)).alloc (.cells #[.slice none 0 0, .slice none 0 0] 46)).heap.size = w.heap.size + 1 + 1 := by simp
  rw [e1] at hres
  obtain ⟨W0, HW0⟩ : ∃ W0, Hid (((w.alloc (.cells #[.int .i64 n.places, tv] 24)).alloc (.cells #[.slice none 0 0, .slice none 0 0] 46)) = W0) := ⟨_, rfl⟩
  rw [HW0.out] at b0 hbx hres e2
  clear c1 c2 e1
  have hv : Net W0 (.agg #[.int .i64 n.places, tv]) n := ⟨tv, rfl, hT.below b0⟩
  replace hu := hu.below b0
  obtain ⟨x0, x1, x2⟩ := id hbx
  go_enter Try.func19, Try.ntmps19
  go_upto_region 1 with fail
  rw [HW0.out]
  clear HW0
  go_wp2_with fail
  refine (explored_any _ _ n m most _ n.places.toNat (fits_places n m) (by exact hv) (by exact hu)).mono ?_
  rintro e w1 ⟨b1, hcase⟩
  replace hres := (b1.block (w.heap.size + 1) (by omega)).trans hres
  replace b0 := below_then b0 b1
  clear x0 x1 x2 hbx hv hu hT
  rcases hcase with ⟨mv, av, bv, mb, bys, c, D, rfl, hg0, hR, hD, hTd⟩ | ⟨rfl, hg0⟩
  · obtain ⟨s, hs⟩ : ∃ s, graphL n m most = (s, 0) := ⟨_, Prod.ext rfl hg0⟩
    rw [hs] at hR
    have Hs : Hid _ := hs
    clear hs hg0
    simp only at hR
    obtain ⟨am, cm, rfl, _⟩ := hR.now.1.slice
    obtain ⟨aa, ca, rfl, _⟩ := hR.now.2.1.slice
    obtain ⟨ab, cb, rfl, _⟩ := hR.now.2.2.1.slice
    have c1 := below_new w1 (.cells #[.int .i64 most, .slice am s.marks.length cm, .slice aa (s.arcs.map arcZ).length ca, .map (some mb), .slice ab (bys.map arcZ).length cb] 63)
    have h5 := heap_alloc_new w1 (.cells #[.int .i64 most, .slice am s.marks.length cm, .slice aa (s.arcs.map arcZ).length ca, .map (some mb), .slice ab (bys.map arcZ).length cb] 63)
    obtain ⟨lm, Hlm⟩ : ∃ lm, Hid (s.marks.length = lm) := ⟨_, rfl⟩
    obtain ⟨la, Hla⟩ : ∃ la, Hid ((s.arcs.map arcZ).length = la) := ⟨_, rfl⟩
    obtain ⟨lb, Hlb⟩ : ∃ lb, Hid ((bys.map arcZ).length = lb) := ⟨_, rfl⟩
    rw [Hlm.out, Hla.out, Hlb.out] at c1 h5 hR ⊢
    obtain ⟨w2, Hw2⟩ : ∃ w2, Hid (w1.alloc (.cells #[.int .i64 most, .slice am lm cm, .slice aa la ca, .map (some mb), .slice ab lb cb] 63) = w2) := ⟨_, rfl⟩
    rw [Hw2.out] at c1 h5
    replace hR := hR.below c1
    replace hres := (c1.block (w.heap.size + 1) (by have := b1.size; omega)).trans hres
    replace b0 := below_then b0 c1
    go_upto_region 2 with fail
    rw [Hw2.out]
    clear Hw2
    obtain ⟨z0, z1, z2, z3, z4, zf⟩ := box5_block h5
    obtain ⟨⟨r0, r1, r2⟩, rf⟩ := box2_block hres
    have rf0 := rf 0
    have rf1 := rf 1
    have hR2 := (hR.set (a := ⟨w.heap.size + 1, 0, none⟩) (show ¬ W0.heap.size ≤ w.heap.size + 1 by omega) (.slice am lm cm)).set (a := ⟨w.heap.size + 1, 1, none⟩) (show ¬ W0.heap.size ≤ w.heap.size + 1 by omega) (.slice aa la ca)
    have HR : Hid _ := hR2.now
    have Hb : Hid _ := (b0.setCell (p := ⟨w.heap.size + 1, 0, none⟩) (by simp) (.slice am lm cm)).setCell (p := ⟨w.heap.size + 1, 1, none⟩) (by simp) (.slice aa la ca)
    clear rf zf hR hR2
    go_wp2_with fail
    refine bodyPost_ret (v := .tuple #[.agg #[.slice am lm cm, .slice aa la ca], .int .i64 0]) ?_ rfl ⟨_, by rw [Hs.out], by rw [Hs.out]; exact ⟨_, _, rfl, HR.out.1, HR.out.2.1⟩, Hb.out⟩
    simp [results, Try.results19, go_sem, r1, r2]
  · obtain ⟨cd, hcd⟩ : ∃ cd, (graphL n m most).2 = cd := ⟨_, rfl⟩
    have Hs : Hid (graphL n m most = (⟨[], []⟩, cd)) := by show _ = _; rw [← hcd, ← graphL_err hg0]
    rw [hcd]
    clear hcd hg0
    have c1 := below_new w1 (.cells #[.int .i64 0, .slice none 0 0, .slice none 0 0, .map none, .slice none 0 0] 63)
    have h5 := heap_alloc_new w1 (.cells #[.int .i64 0, .slice none 0 0, .slice none 0 0, .map none, .slice none 0 0] 63)
    obtain ⟨w2, Hw2⟩ : ∃ w2, Hid (w1.alloc (.cells #[.int .i64 0, .slice none 0 0, .slice none 0 0, .map none, .slice none 0 0] 63) = w2) := ⟨_, rfl⟩
    rw [Hw2.out] at c1 h5
    replace hres := (c1.block (w.heap.size + 1) (by have := b1.size; omega)).trans hres
    replace b0 := below_then b0 c1
    go_upto_region 2 with fail
    rw [Hw2.out]
    clear Hw2
    obtain ⟨z0, z1, z2, z3, z4, zf⟩ := box5_block h5
    obtain ⟨⟨r0, r1, r2⟩, rf⟩ := box2_block hres
    have rf0 := rf 0
    have rf1 := rf 1
    have Hb : Hid _ := (b0.setCell (p := ⟨w.heap.size + 1, 0, none⟩) (by simp) (.slice none 0 0)).setCell (p := ⟨w.heap.size + 1, 1, none⟩) (by simp) (.slice none 0 0)
    clear rf zf
    go_wp2_with fail
    refine bodyPost_ret (v := .tuple #[.agg #[.slice none 0 0, .slice none 0 0], .int .i64 cd]) ?_ rfl ⟨_, by rw [Hs.out], by rw [Hs.out]; exact space_none _, Hb.out⟩
    simp [results, Try.results19, go_sem, r1, r2]

/-- What a search knows of ways. -/
structure Ways (s : SpaceL) (bys : List ArcL) : Prop where
  len : bys.length = s.marks.length
  step : ∀ g (hg : g < bys.length), 0 < g → (bys[g]).frm < g ∧ pathL s g = pathL s (bys[g]).frm ++ [((bys[g]).tran : Int)]

theorem ways_of {n : NetL} {m : List Int} {most k t : Nat} {s : SpaceL} {bys : List ArcL} (h : Found n m most k t s) (hT : Tied s bys) : Ways s bys := by
  refine ⟨hT.len, fun g hg h0 => ?_⟩
  have hgm : g < s.marks.length := by rw [← hT.len]; exact hg
  have e := hT.first g h0 hgm
  rw [List.getElem?_eq_getElem hg] at e
  obtain ⟨a, h1, h2⟩ := h.par g h0 hgm
  rw [e] at h1
  injection h1 with h1
  exact ⟨by rw [h1]; exact h2, pathL_step h h0 hgm e⟩

set_option maxHeartbeats 1000000 in
theorem way_any (s : SpaceL) (bys : List ArcL) (hW : Ways s bys) (p : Nat) (bv : Value) (g : Nat) (w : World) (hb : Arcs w bv (bys.map arcZ)) (hp : p < w.heap.size) (hc : w.cell? ⟨p, 4, none⟩ = some bv) (hg : g < bys.length) (hl : bys.length ≤ 300) :
    Calls Try.prog 34 #[.pointer (some ⟨p, 0, none⟩), .int .i64 g] w fun e w' => ∃ r, e = .returned r ∧ Ints w' r (pathL s g) ∧ Below w.heap.size w w' := by
  obtain ⟨ab, cb, rfl, hlb⟩ := hb.slice
  obtain ⟨lb, Hlb⟩ : ∃ lb, Hid ((bys.map arcZ).length = lb) := ⟨_, rfl⟩
  have Hll : Hid (bys.length = lb) := by show _ = _; rw [← Hlb.out]; simp
  rw [Hlb.out] at hb hc
  have hgl : g < lb := by have := Hll.out; omega
  have HW : Hid _ := hW
  have HgB : Hid _ := hg
  clear hW hlb hg
  go_enter Try.func34, Try.ntmps34
  go_wp2_with fail
  go_loopg [1, 5] g (fun f a v wr => ∃ (h : Nat) (zs : List Int), a = .int .i64 h ∧ h ≤ f ∧ h < lb ∧ Own w.heap.size w wr v zs ∧ Hid (pathL s g = pathL s h ++ zs.reverse ∧ zs.length + h ≤ g))
  case atStart => exact ⟨g, [], rfl, Nat.le_refl _, hgl, Own.nil _, by simp, by simp⟩
  case round =>
    obtain ⟨h, zs, rfl, hhf, hhl, hO, Hz⟩ := hrel
    have hzl : zs.length ≤ 300 := by have := Hz.out.2; have := Hll.out; omega
    by_cases h0 : h = 0
    · subst h0
      have HP : Hid (zs.reverse = pathL s g) := by show _ = _; rw [Hz.out.1, pathL_zero]; simp
      go_wp2_with fail
      refine (reverse_any w.heap.size w _ zs _ hO (by omega)).mono ?_
      rintro e w2 ⟨rfl, hO2⟩
      have R := hO2.ints (by simp; omega)
      have R2 := hO2.2.1
      rw [HP.out] at R
      clear hO hO2 HP Hz
      go_wp2
      go_ret
      exact ⟨_, rfl, R, R2⟩
    · obtain ⟨b, off, rfl, hblt, k0, k1, k2⟩ := (hb.below hO.2.1).at (k := h) (by rw [Hlb.out]; exact hhl)
      have hcx := (hO.2.1.cell (p := ⟨p, 4, none⟩) hp).trans hc
      have hbl : h < bys.length := by have := Hll.out; omega
      have q1 := HW.out.step h hbl (by omega)
      rw [List.getElem_map] at k0 k1 k2
      simp only [arcZ] at k0 k1 k2
      obtain ⟨hfr, Hpa⟩ : (bys[h]).frm < h ∧ Hid (pathL s h = pathL s (bys[h]).frm ++ [((bys[h]).tran : Int)]) := ⟨q1.1, q1.2⟩
      generalize bys[h] = a at *
      have hb0 := hb
      obtain ⟨b', off', eb, hb', k0', _, _⟩ := hb0.at (k := h) (by rw [Hlb.out]; exact hhl)
      injection eb with eb
      injection eb with eb1 eb2
      subst eb1 eb2
      have k0w : w.cell? ⟨b, off + h * 3, none⟩ = some (.int .i64 (a.frm : Int)) := by rw [← hO.2.1.cell (p := ⟨b, _, none⟩) hb']; exact k0
      clear k0'
      go_upto_region 4 with (at_builtin; refine wp_append_int rfl _ _ rfl w.heap.size w _ _ _ (a.tran : Int) hO rfl rfl (by omega) ?_; intro v' w3 hO3)
      have hcx3 := (hO3.2.1.cell (p := ⟨p, 4, none⟩) hp).trans hc
      have k03 := (hO3.2.1.cell (p := ⟨b, _, none⟩) hb').trans k0w
      have HR : Hid (pathL s g = pathL s a.frm ++ (zs ++ [(a.tran : Int)]).reverse ∧ (zs ++ [(a.tran : Int)]).length + a.frm ≤ g) := by
        obtain ⟨e1, e2⟩ := Hz.out
        refine ⟨by rw [e1, Hpa.out]; simp, by simp; omega⟩
      clear hO Hz Hpa k0 k1 k2 k0w hcx q1
      go_wp2
      go_roundg (gk - 1)
      case measure => omega
      case rel => exact ⟨a.frm, _, rfl, by omega, by omega, hO3, HR⟩

set_option maxHeartbeats 2000000 in
theorem reach_path (v u g : Value) (n : NetL) (m goal : List Int) (most : Int) (w : World) (hv : Net w v n) (hu : Ints w u m) (hg : Ints w g goal) (hgw : ∀ z ∈ goal, inWord z) :
    Calls Try.prog 14 #[v, u, g, .int .i64 most] w fun e w' => Gives w (reachL n m goal most) e w' := by
  obtain ⟨tv, rfl, hT⟩ := hv
  have b0 := below_new w (.cells #[.int .i64 n.places, tv] 24)
  have hbx := box2_new w (.int .i64 n.places) tv 24
  have hv : Net _ (.agg #[.int .i64 n.places, tv]) n := ⟨tv, rfl, hT.below b0⟩
  replace hu := hu.below b0
  replace hg := hg.below b0
  have Hgw : Hid _ := hgw
  clear hT hgw
  go_enter Try.func14, Try.ntmps14
  go_wp2_with fail
  refine (explored_any _ _ n m most _ n.places.toNat (fits_places n m) (by exact hv) (by exact hu)).mono ?_
  rintro e w1 ⟨b1, hcase⟩
  replace hbx := hbx.below b1
  replace hg := hg.below b1
  replace b0 := below_then b0 b1
  clear b1 hv hu
  rcases hcase with ⟨mv, av, bv, mb, bys, c, D, rfl, hg0, hR, hD, hTd⟩ | ⟨rfl, hg0⟩
  · obtain ⟨s, hs⟩ : ∃ s, graphL n m most = (s, 0) := ⟨_, Prod.ext rfl hg0⟩
    have hF := (graphL_ok hs).2.2.2.2
    have hfit := (graphL_ok hs).2.2.1
    have hm3 := (graphL_ok hs).2.1
    rw [hs] at hR hD hTd
    simp only at hR hD hTd
    have hW := ways_of hF hTd
    have hml := hF.most_le
    replace hR := hR.now
    obtain ⟨h1, h2, h3, h4⟩ := hR
    obtain ⟨am, cm, rfl, _⟩ := h1.slice
    obtain ⟨aa, ca, rfl, _⟩ := h2.slice
    obtain ⟨ab, cb, rfl, _⟩ := h3.slice
    have HE : Hid (reachL n m goal most = match findM s.marks goal with | some g => (pathL s g, 0) | none => ([], 3)) := by show _ = _; unfold reachL; rw [hs]; rfl
    have hfitp := (fits_net hfit).2.1
    have Hlen : Hid (∀ x ∈ s.marks, (x.length : Int) = n.places) := fun x hx => (fits_net (hF.fits x hx)).2.1
    clear hs hg0 hF hfit h1 h2
    obtain ⟨lm, Hlm⟩ : ∃ lm, Hid (s.marks.length = lm) := ⟨_, rfl⟩
    obtain ⟨la, Hla⟩ : ∃ la, Hid ((s.arcs.map arcZ).length = la) := ⟨_, rfl⟩
    obtain ⟨lb, Hlb⟩ : ∃ lb, Hid ((bys.map arcZ).length = lb) := ⟨_, rfl⟩
    rw [Hlm.out] at hml
    rw [Hlb.out] at h3
    rw [Hlm.out, Hla.out, Hlb.out]
    have c1 := below_new w1 (.cells #[.int .i64 most, .slice am lm cm, .slice aa la ca, .map (some mb), .slice ab lb cb] 63)
    have h5 := heap_alloc_new w1 (.cells #[.int .i64 most, .slice am lm cm, .slice aa la ca, .map (some mb), .slice ab lb cb] 63)
    obtain ⟨w2, Hw2⟩ : ∃ w2, Hid (w1.alloc (.cells #[.int .i64 most, .slice am lm cm, .slice aa la ca, .map (some mb), .slice ab lb cb] 63) = w2) := ⟨_, rfl⟩
    rw [Hw2.out] at c1 h5
    replace hbx := hbx.below c1
    replace hg := hg.below c1
    replace b0 := below_then b0 c1
    replace h3 := h3.below c1
    replace h4 := map_below h4 c1
    clear c1
    go_upto_region 2 with fail
    rw [Hw2.out]
    clear Hw2
    obtain ⟨z0, z1, z2, z3, z4, zf⟩ := box5_block h5
    obtain ⟨x0, x1, x2⟩ := id hbx
    have hplt : w1.heap.size < w2.heap.size := (Array.getElem?_eq_some_iff.1 h5).1
    obtain ⟨ag, lg, cg, rfl, hlg, _, _, _⟩ := id hg
    clear zf hbx
    by_cases hlen : (lg : Int) = n.places
    · have hcmp : ((lg : Int) != n.places) = false := by simpa using hlen
      have hgl : goal.length = n.places.toNat := by omega
      have Hgl : Hid _ := hgl
      clear hlen hgl
      cases hf : findM s.marks goal with
      | some gi =>
        have HE2 : Hid (reachL n m goal most = (pathL s gi, 0)) := by show _ = _; rw [HE.out, hf]
        have Hf : Hid _ := hf
        clear hf HE
        go_wp2_with fail
        go_region_held3 (fun w' => w'.cell? ⟨w1.heap.size, 3, none⟩ = some (.map (some mb)))
          (go_keep)
          (first
            | (go_at_call 33; refine (key_any _ goal _ ?_).mono ?_; exact hg.drewN 1; rintro e w5 ⟨rfl, q5⟩; have q5 := below_then (below_drewN (Below.refl w2.heap.size w2) 1) q5; have hm5 := map_below h4 q5; have z35 := (q5.cell (p := ⟨w1.heap.size, 3, none⟩) hplt).trans z3; have hrun := look_yes hm5 hD Hgl.out Hgw.out Hf.out))
        have z45 := (q5.cell (p := ⟨w1.heap.size, 4, none⟩) hplt).trans z4
        have hgi : gi < bys.length := by rw [hW.len]; exact (findM_some Hf.out).1
        have hbl : bys.length ≤ 300 := by rw [hW.len, Hlm.out]; omega
        replace h3 := h3.below q5
        have hplt5 := Nat.lt_of_lt_of_le hplt q5.size
        replace b0 := below_then b0 q5
        clear hrun hm5 z35 z0 z1 z2 z3 z4 x0 x1 x2 Hf hD h4 q5
        go_wp2_with fail
        refine (way_any s bys hW w1.heap.size _ gi _ h3 hplt5 z45 hgi hbl).mono ?_
        rintro e w6 ⟨r6, rfl, hr6, q6⟩
        go_wp2
        go_ret2
        exact gives_of HE2.out hr6 (below_then b0 q6)
      | none =>
        have HE2 : Hid (reachL n m goal most = ([], 3)) := by show _ = _; rw [HE.out, hf]
        have Hf : Hid _ := hf
        clear hf HE
        go_wp2_with fail
        go_region_held3 (fun w' => w'.cell? ⟨w1.heap.size, 3, none⟩ = some (.map (some mb)))
          (go_keep)
          (first
            | (go_at_call 33; refine (key_any _ goal _ ?_).mono ?_; exact hg.drewN 1; rintro e w5 ⟨rfl, q5⟩; have q5 := below_then (below_drewN (Below.refl w2.heap.size w2) 1) q5; have hm5 := map_below h4 q5; have z35 := (q5.cell (p := ⟨w1.heap.size, 3, none⟩) hplt).trans z3; obtain ⟨a0, hrun⟩ := look_no hm5 hD Hgl.out Hgw.out Hf.out))
        replace b0 := below_then b0 q5
        clear hrun hm5 z35 z0 z1 z2 z3 z4 x0 x1 x2 Hf hD h4 q5
        go_wp2
        go_ret2
        exact gives_of HE2.out (Ints.nil _) b0
    · have hcmp : ((lg : Int) != n.places) = true := by simpa using hlen
      have HE2 : Hid (reachL n m goal most = ([], 3)) := by
        show _ = _
        rw [HE.out]
        cases hf : findM s.marks goal with
        | none => rfl
        | some gi =>
          exfalso
          obtain ⟨q1, q2⟩ := findM_some hf
          have := Hlen.out _ (markAt_mem q1)
          rw [q2] at this
          omega
      go_wp2
      go_ret2
      exact gives_of HE2.out (Ints.nil _) b0
  · obtain ⟨cd, hcd⟩ : ∃ cd, (graphL n m most).2 = cd := ⟨_, rfl⟩
    have hc0 : cd ≠ 0 := by rw [← hcd]; exact hg0
    have HE2 : Hid (reachL n m goal most = ([], cd)) := by show _ = _; unfold reachL; rw [hcd]; simp [hc0]
    rw [hcd]
    clear hcd hg0
    have c1 := below_new w1 (.cells #[.int .i64 0, .slice none 0 0, .slice none 0 0, .map none, .slice none 0 0] 63)
    replace b0 := below_then b0 c1
    clear hbx c1
    go_wp2
    go_ret2
    exact gives_of HE2.out (Ints.nil _) b0

end Go.Proofs.Ytkdbkoogcndlgaa
