/- Package reach as it landed: all marks, and the way to one of them. -/
import Derived.Test.YtakgppoeikcepaaReachDev4
import Derived.Test.YtakgppoeikcepaaSlices3
namespace Go.Proofs.Ytakgppoeikcepaa
open Go.RowKit Go.Maps
set_option linter.unusedVariables false
set_option maxRecDepth 4000

theorem map_below {w w' : World} {b c : Nat} {D : DataW Unit} (h : w.ownsMap Try.prog 133 (plainElem Try.prog 3) b c D) (hb : Below w.heap.size w w') : w'.ownsMap Try.prog 133 (plainElem Try.prog 3) b c D := by
  obtain ⟨es, cl, h1, h2⟩ := h
  exact ⟨es, cl, by rw [hb.block b (Array.getElem?_eq_some_iff.1 h1).1]; exact h1, h2⟩

theorem fits_places (n : NetL) (m : List Int) : n.places = (n.places.toNat : Int) ∨ fitsL n m = false := by
  cases h : fitsL n m
  · exact .inr rfl
  · left
    have h1 := (fits_net h).2.1
    omega

theorem space_none (w : World) : Space w (.agg #[.slice none 0 0, .slice none 0 0]) ⟨[], []⟩ :=
  ⟨_, _, rfl, ⟨none, 0, 0, rfl, rfl, by omega, ⟨by omega, by omega, fun _ => rfl⟩, fun j hj => absurd hj (by simp)⟩, ⟨none, 0, 0, rfl, rfl, by omega, ⟨by omega, by omega, fun _ => rfl⟩, fun j hj => absurd hj (by simp)⟩⟩

theorem box2_block {w : World} {b : Nat} {t : TypeId} {u0 u1 : Value} (h : w.heap[b]? = some (.cells #[u0, u1] t (0, 0))) : Box2 w b u0 u1 ∧ ∀ j, w.frozen? ⟨b, j, none⟩ = false := by
  refine ⟨⟨(Array.getElem?_eq_some_iff.1 h).1, ?_, ?_⟩, fun j => ?_⟩
  all_goals simp [World.cell?, World.frozen?, h]

set_option maxHeartbeats 1000000 in
theorem reach_graph (v u : Value) (n : NetL) (m : List Int) (most : Int) (w : World) (hv : Net w v n) (hu : Ints w u m) :
    Calls Try.prog 15 #[v, u, .int .i64 most] w fun e w' => GivesS w (graphL n m most) e w' := by
  obtain ⟨tv, rfl, hT⟩ := hv
  have c1 := below_new w (.cells #[.int .i64 n.places, tv] 24)
  have c2 := below_new (w.alloc (.cells #[.int .i64 n.places, tv] 24)) (.cells #[.slice none 0 0, .slice none 0 0] 49)
  have b0 := below_then c1 c2
  have hbx := (box2_new w (.int .i64 n.places) tv 24).below c2
  have hres := heap_alloc_new (w.alloc (.cells #[.int .i64 n.places, tv] 24)) (.cells #[.slice none 0 0, .slice none 0 0] 49)
  have e1 : (w.alloc (.cells #[.int .i64 n.places, tv] 24)).heap.size = w.heap.size + 1 := by simp
  have e2 : ((w.alloc (.cells #[.int .i64 n.places, tv] 24)).alloc (.cells #[.slice none 0 0, .slice none 0 0] 49)).heap.size = w.heap.size + 1 + 1 := by simp
  rw [e1] at hres
  obtain ⟨W0, HW0⟩ : ∃ W0, Hid (((w.alloc (.cells #[.int .i64 n.places, tv] 24)).alloc (.cells #[.slice none 0 0, .slice none 0 0] 49)) = W0) := ⟨_, rfl⟩
  rw [HW0.out] at b0 hbx hres e2
  clear c1 c2 e1
  have hv : Net W0 (.agg #[.int .i64 n.places, tv]) n := ⟨tv, rfl, hT.below b0⟩
  replace hu := hu.below b0
  obtain ⟨x0, x1, x2⟩ := id hbx
  go_enter Try.func15, Try.ntmps15
  go_upto_region 1 with fail
  rw [HW0.out]
  clear HW0
  go_wp2_with fail
  refine (explored_any _ _ n m most _ n.places.toNat (fits_places n m) (by exact hv) (by exact hu)).mono ?_
  rintro e w1 ⟨b1, hcase⟩
  replace hres := (b1.block (w.heap.size + 1) (by omega)).trans hres
  replace b0 := below_then b0 b1
  clear x0 x1 x2 hbx hv hu hT
  rcases hcase with ⟨mv, av, bv, mb, bys, c, D, rfl, hg0, hR, hD, hTd⟩ | ⟨rfl, hg0⟩
  · obtain ⟨s, hs⟩ : ∃ s, graphL n m most = (s, 0) := ⟨_, Prod.ext rfl hg0⟩
    rw [hs] at hR
    have Hs : Hid _ := hs
    clear hs hg0
    simp only at hR
    obtain ⟨am, cm, rfl, _⟩ := hR.now.1.slice
    obtain ⟨aa, ca, rfl, _⟩ := hR.now.2.1.slice
    obtain ⟨ab, cb, rfl, _⟩ := hR.now.2.2.1.slice
    have c1 := below_new w1 (.cells #[.int .i64 most, .slice am s.marks.length cm, .slice aa (s.arcs.map arcZ).length ca, .map (some mb), .slice ab (bys.map arcZ).length cb] 85)
    have h5 := heap_alloc_new w1 (.cells #[.int .i64 most, .slice am s.marks.length cm, .slice aa (s.arcs.map arcZ).length ca, .map (some mb), .slice ab (bys.map arcZ).length cb] 85)
    obtain ⟨lm, Hlm⟩ : ∃ lm, Hid (s.marks.length = lm) := ⟨_, rfl⟩
    obtain ⟨la, Hla⟩ : ∃ la, Hid ((s.arcs.map arcZ).length = la) := ⟨_, rfl⟩
    obtain ⟨lb, Hlb⟩ : ∃ lb, Hid ((bys.map arcZ).length = lb) := ⟨_, rfl⟩
    rw [Hlm.out, Hla.out, Hlb.out] at c1 h5 hR ⊢
    obtain ⟨w2, Hw2⟩ : ∃ w2, Hid (w1.alloc (.cells #[.int .i64 most, .slice am lm cm, .slice aa la ca, .map (some mb), .slice ab lb cb] 85) = w2) := ⟨_, rfl⟩
    rw [Hw2.out] at c1 h5
    replace hR := hR.below c1
    replace hres := (c1.block (w.heap.size + 1) (by have := b1.size; omega)).trans hres
    replace b0 := below_then b0 c1
    go_upto_region 2 with fail
    rw [Hw2.out]
    clear Hw2
    obtain ⟨z0, z1, z2, z3, z4, zf⟩ := box5_block h5
    obtain ⟨⟨r0, r1, r2⟩, rf⟩ := box2_block hres
    have rf0 := rf 0
    have rf1 := rf 1
    have hR2 := (hR.set (a := ⟨w.heap.size + 1, 0, none⟩) (show ¬ W0.heap.size ≤ w.heap.size + 1 by omega) (.slice am lm cm)).set (a := ⟨w.heap.size + 1, 1, none⟩) (show ¬ W0.heap.size ≤ w.heap.size + 1 by omega) (.slice aa la ca)
    have HR : Hid _ := hR2.now
    have Hb : Hid _ := (b0.setCell (p := ⟨w.heap.size + 1, 0, none⟩) (by simp) (.slice am lm cm)).setCell (p := ⟨w.heap.size + 1, 1, none⟩) (by simp) (.slice aa la ca)
    clear rf zf hR hR2
    go_wp2_with fail
    refine bodyPost_ret (v := .tuple #[.agg #[.slice am lm cm, .slice aa la ca], .int .i64 0]) ?_ rfl ⟨_, by rw [Hs.out], by rw [Hs.out]; exact ⟨_, _, rfl, HR.out.1, HR.out.2.1⟩, Hb.out⟩
    simp [results, Try.results15, go_sem, r1, r2]
  · obtain ⟨cd, hcd⟩ : ∃ cd, (graphL n m most).2 = cd := ⟨_, rfl⟩
    have Hs : Hid (graphL n m most = (⟨[], []⟩, cd)) := by show _ = _; rw [← hcd, ← graphL_err hg0]
    rw [hcd]
    clear hcd hg0
    have c1 := below_new w1 (.cells #[.int .i64 0, .slice none 0 0, .slice none 0 0, .map none, .slice none 0 0] 85)
    have h5 := heap_alloc_new w1 (.cells #[.int .i64 0, .slice none 0 0, .slice none 0 0, .map none, .slice none 0 0] 85)
    obtain ⟨w2, Hw2⟩ : ∃ w2, Hid (w1.alloc (.cells #[.int .i64 0, .slice none 0 0, .slice none 0 0, .map none, .slice none 0 0] 85) = w2) := ⟨_, rfl⟩
    rw [Hw2.out] at c1 h5
    replace hres := (c1.block (w.heap.size + 1) (by have := b1.size; omega)).trans hres
    replace b0 := below_then b0 c1
    go_upto_region 2 with fail
    rw [Hw2.out]
    clear Hw2
    obtain ⟨z0, z1, z2, z3, z4, zf⟩ := box5_block h5
    obtain ⟨⟨r0, r1, r2⟩, rf⟩ := box2_block hres
    have rf0 := rf 0
    have rf1 := rf 1
    have Hb : Hid _ := (b0.setCell (p := ⟨w.heap.size + 1, 0, none⟩) (by simp) (.slice none 0 0)).setCell (p := ⟨w.heap.size + 1, 1, none⟩) (by simp) (.slice none 0 0)
    clear rf zf
    go_wp2_with fail
    refine bodyPost_ret (v := .tuple #[.agg #[.slice none 0 0, .slice none 0 0], .int .i64 cd]) ?_ rfl ⟨_, by rw [Hs.out], by rw [Hs.out]; exact space_none _, Hb.out⟩
    simp [results, Try.results15, go_sem, r1, r2]

/-- What a search knows of ways. -/
structure Ways (s : SpaceL) (bys : List ArcL) : Prop where
  len : bys.length = s.marks.length
  step : ∀ g (hg : g < bys.length), 0 < g → (bys[g]).frm < g ∧ pathL s g = pathL s (bys[g]).frm ++ [((bys[g]).tran : Int)]

theorem ways_of {n : NetL} {m : List Int} {most k t : Nat} {s : SpaceL} {bys : List ArcL} (h : Found n m most k t s) (hT : Tied s bys) : Ways s bys := by
  refine ⟨hT.len, fun g hg h0 => ?_⟩
  have hgm : g < s.marks.length := by rw [← hT.len]; exact hg
  have e := hT.first g h0 hgm
  rw [List.getElem?_eq_getElem hg] at e
  obtain ⟨a, h1, h2⟩ := h.par g h0 hgm
  rw [e] at h1
  injection h1 with h1
  exact ⟨by rw [h1]; exact h2, pathL_step h h0 hgm e⟩

end Go.Proofs.Ytakgppoeikcepaa
