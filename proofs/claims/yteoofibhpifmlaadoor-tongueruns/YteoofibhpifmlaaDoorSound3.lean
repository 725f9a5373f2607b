/- What is sound comes to its end; what is not is shown so; more room changes nothing. -/
import Derived.Test.YteoofibhpifmlaaDoorSound2
namespace Go.Proofs.YteoofibhpifmlaaDoor
set_option linter.unusedVariables false
set_option maxRecDepth 4000

section
variable {n : NetL} {i o most : Int} {s : SpaceL} {v : VerdL}

/-- From whatever mark there is room enough. -/
theorem again_most {m : List Int} (hg : graphL n m most = (s, 0)) {x : List Int} (hr : ReachZ n m x) : ∃ u, graphL n x most = (u, 0) := by
  have hW := graphL_whole hg
  obtain ⟨m1, m2, _, _, hF⟩ := graphL_ok hg
  obtain ⟨k, rfl⟩ := Int.eq_ofNat_of_zero_le (show 0 ≤ most by omega)
  exact graph_within (L := s.marks) (by omega) (by omega) (hW.right_of hr) (by have := hF.most_le; rwa [Int.toNat_natCast] at this) (fun y hy => by
    obtain ⟨g, hgl, rfl⟩ := hW.has (hr.trans hy)
    exact markAt_mem hgl) (fun y hy => (fits_net (hW.right_of (hr.trans hy))).2.2)

theorem path_to {m x : List Int} (hg : graphL n m most = (s, 0)) (hr : ReachZ n m x) : ∃ p, reachL n m x most = (p, 0) ∧ runL n m p = (x, 0) := by
  obtain ⟨g, hgl, rfl⟩ := (graphL_whole hg).has hr
  obtain ⟨p, h1, h2, _⟩ := reach_true hg hgl
  exact ⟨p, h1, h2⟩
theorem path_none {m x : List Int} (hg : graphL n m most = (s, 0)) (hr : ¬ ReachZ n m x) : (reachL n m x most).2 = 3 := by
  have hW := graphL_whole hg
  unfold reachL
  rw [hg]
  simp only [BEq.rfl, if_true]
  cases hf : findM s.marks x with
  | none => rfl
  | some g =>
    obtain ⟨h1, h2⟩ := findM_some hf
    exact absurd (hW.iff.2 ⟨g, h1, h2⟩) hr

/-- What is sound always comes to its end. -/
theorem sound_means (hg : graphL n (startL n.places i) most = (s, 0)) (hv : SaysV n (startL n.places o) s v) (hk : v.kind = 1) (seq : List Int) :
    (runL n (startL n.places i) seq).2 = 3 ∨ ∃ x, runL n (startL n.places i) seq = (x, 0) ∧ (∃ p, reachL n x (startL n.places o) most = (p, 0) ∧ runL n x p = (startL n.places o, 0)) ∧ (coversL x (startL n.places o) = true → x = startL n.places o) := by
  obtain ⟨h1, h2, h3⟩ := hv.kind.1 hk
  have hW := graphL_whole hg
  have he := hW.here
  rcases hW.run seq (f := 0) he.1 with q | ⟨g, hgl, e⟩
  · rw [he.2] at q; exact .inl q
  · rw [he.2] at e
    refine .inr ⟨_, e, ?_, fun hc => ?_⟩
    · obtain ⟨u, hu⟩ := again_most hg (hW.iff.2 ⟨g, hgl, rfl⟩)
      exact path_to hu (h2 g hgl)
    · refine Classical.byContradiction fun q => h1 g hgl ⟨hc, q⟩

/-- What is not is shown so. -/
theorem sound_witness (hS : ShapeOk n i o) (hg : graphL n (startL n.places i) most = (s, 0)) (hv : SaysV n (startL n.places o) s v) :
    v.kind = 1 ∨ (v.kind = 2 ∧ (reachL n (startL n.places i) v.at_ most).2 = 0 ∧ coversL v.at_ (startL n.places o) = true ∧ v.at_ ≠ startL n.places o) ∨
    (v.kind = 3 ∧ (reachL n (startL n.places i) v.at_ most).2 = 0 ∧ (reachL n v.at_ (startL n.places o) most).2 = 3) ∨
    (v.kind = 4 ∧ 0 ≤ v.tran ∧ v.tran < n.trans.length ∧ ∀ seq, (runL n (startL n.places i) seq).2 = 0 → v.tran ∉ seq) := by
  have hW := graphL_whole hg
  rcases hv.cases with ⟨k, a1, a2, a3, rfl⟩ | ⟨a1, k, a2, a3, a4, rfl⟩ | ⟨a1, a2, t, ts, a3, rfl⟩ | ⟨a1, a2, a3, rfl⟩
  · obtain ⟨p, h1, _⟩ := path_to hg (hW.iff.2 ⟨k, a1, rfl⟩)
    exact .inr (.inl ⟨rfl, by rw [h1], a2.1, a2.2⟩)
  · obtain ⟨p, h1, _⟩ := path_to hg (hW.iff.2 ⟨k, a2, rfl⟩)
    obtain ⟨u, hu⟩ := again_most hg (hW.iff.2 ⟨k, a2, rfl⟩)
    exact .inr (.inr (.inl ⟨rfl, by rw [h1], path_none hu a3⟩))
  · have ht : t ∈ deadL (toZ s) n.trans.length := by rw [a3]; simp
    obtain ⟨q1, q2, q3⟩ := mem_dead.1 ht
    refine .inr (.inr (.inr ⟨rfl, q1, by show t < _; omega, fun seq hs hin => ?_⟩))
    have he := hW.here
    cases hr : runL n (startL n.places i) seq with
    | mk x cd =>
      rw [hr] at hs
      simp only at hs
      subst hs
      obtain ⟨_, h2⟩ := hW.run_comes seq (i := 0) (k := 0) (z := x) he.1 (Comes.here _) (by rw [he.2]; exact hr)
      obtain ⟨a, ha, e, _⟩ := h2 t hin
      exact q3 (arcZ a) (mem_arcZ.2 ⟨a, ha, rfl⟩) e
  · exact .inl rfl

/-- More room changes no verdict. -/
theorem sound_room {more f : Int} {u : VerdL} (h : Verd n i o most v 0) (k : Verd n i o more u f) (h1 : most ≤ more) (h2 : more ≤ 300) : f = 0 ∧ u = v := by
  obtain ⟨hS, s, hg, hs⟩ := h.zero
  obtain ⟨m1, _, _, _, hF⟩ := graphL_ok hg
  have hr := graph_room hg (more := more) (by omega) h2
  have hml := hF.most_le
  have : graphL n (startL n.places i) more = (s, 0) := by
    rw [hr, if_pos (by omega)]
  obtain ⟨k1, k2⟩ := k.right hS s this
  exact ⟨k1, k2.unique hs⟩

end

end Go.Proofs.YteoofibhpifmlaaDoor
