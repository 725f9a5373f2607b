/- Plain facts on all marks that a net comes to: more room. -/
import Derived.Test.YtjfcfnaeinhmcaaDoorReaches
namespace Go.Proofs.YtjfcfnaeinhmcaaDoor
set_option linter.unusedVariables false
set_option maxRecDepth 4000

theorem tryT_len {n : NetL} {most k t : Nat} {s s' : SpaceL} (e : tryT n most k s t = some s') : s.marks.length ≤ s'.marks.length := by
  unfold tryT at e
  split at e
  · injection e with e; subst e; exact Nat.le_refl _
  · split at e
    · split at e
      · injection e with e; subst e; exact Nat.le_refl _
      · split at e
        · cases e
        · injection e with e; subst e; simp
    · cases e

theorem try_cut {n : NetL} {most more k t : Nat} {s s' : SpaceL} (hl : s.marks.length ≤ more) (e : tryT n most k s t = some s') : tryT n more k s t = if s'.marks.length ≤ more then some s' else none := by
  unfold tryT at e ⊢
  split at e
  · rename_i h
    rw [if_pos h]
    injection e with e; subst e; rw [if_pos hl]
  · rename_i h
    rw [if_neg h]
    split at e
    · rename_i h2
      rw [if_pos h2]
      split at e
      · rename_i g hg
        injection e with e; subst e; rw [if_pos hl]
      · rename_i hg
        split at e
        · cases e
        · injection e with e
          subst e
          simp only [List.length_append, List.length_singleton]
          by_cases h3 : s.marks.length = more
          · rw [if_pos h3, if_neg (by omega)]
          · rw [if_neg h3, if_pos (by omega)]
    · cases e

theorem rowTo_len {n : NetL} {most k : Nat} {s : SpaceL} : ∀ (t : Nat) {s' : SpaceL}, rowTo n most k s t = some s' → s.marks.length ≤ s'.marks.length := by
  intro t
  induction t with
  | zero => intro s' e; injection e with e; subst e; exact Nat.le_refl _
  | succ t ih =>
    intro s' e
    simp only [rowTo, Option.bind_eq_some_iff] at e
    obtain ⟨s1, e1, e2⟩ := e
    exact Nat.le_trans (ih e1) (tryT_len e2)

theorem row_cut {n : NetL} {most more k : Nat} {s : SpaceL} (hl : s.marks.length ≤ more) : ∀ (t : Nat) {s' : SpaceL}, rowTo n most k s t = some s' → rowTo n more k s t = if s'.marks.length ≤ more then some s' else none := by
  intro t
  induction t with
  | zero => intro s' e; injection e with e; subst e; rw [if_pos hl]; rfl
  | succ t ih =>
    intro s' e
    simp only [rowTo, Option.bind_eq_some_iff] at e
    obtain ⟨s1, e1, e2⟩ := e
    rw [rowTo, ih e1]
    by_cases h1 : s1.marks.length ≤ more
    · rw [if_pos h1]; exact try_cut h1 e2
    · rw [if_neg h1, if_neg (by have := tryT_len e2; omega)]; rfl

theorem graph_cut {n : NetL} {m : List Int} {most more : Nat} (h1 : 1 ≤ more) : ∀ (k : Nat) {s : SpaceL}, graphTo n m most k = some s → graphTo n m more k = if s.marks.length ≤ more then some s else none := by
  intro k
  induction k with
  | zero => intro s e; injection e with e; subst e; rw [if_pos (by simpa using h1)]; rfl
  | succ k ih =>
    intro s e
    simp only [graphTo, Option.bind_eq_some_iff] at e
    obtain ⟨s1, e1, e2⟩ := e
    rw [graphTo, ih e1]
    by_cases hk : k < s1.marks.length
    · rw [if_pos hk] at e2
      by_cases h2 : s1.marks.length ≤ more
      · rw [if_pos h2]
        simp only [Option.bind_some, if_pos hk]
        exact row_cut h2 _ e2
      · rw [if_neg h2, if_neg (by have := rowTo_len _ e2; omega)]; rfl
    · rw [if_neg hk] at e2
      injection e2 with e2
      subst e2
      by_cases h2 : s1.marks.length ≤ more
      · rw [if_pos h2]
        simp only [Option.bind_some, if_neg hk]
      · rw [if_neg h2]; rfl

theorem graph_stable {n : NetL} {m : List Int} {b k : Nat} {s : SpaceL} (e : graphTo n m b k = some s) (hk : s.marks.length ≤ k) : ∀ j, graphTo n m b (k + j) = some s := by
  intro j
  induction j with
  | zero => exact e
  | succ j ih => rw [← Nat.add_assoc, graphTo, ih]; simp only [Option.bind_some]; rw [if_neg (by omega)]
theorem graph_before {n : NetL} {m : List Int} {b : Nat} : ∀ (j k : Nat) {s : SpaceL}, graphTo n m b (k + j) = some s → ∃ s', graphTo n m b k = some s' := by
  intro j
  induction j with
  | zero => intro k s e; exact ⟨s, e⟩
  | succ j ih =>
    intro k s e
    rw [← Nat.add_assoc, graphTo, Option.bind_eq_some_iff] at e
    obtain ⟨s1, e1, _⟩ := e
    exact ih k e1

/-- More room changes nothing, where there was enough; and there is enough just if there is room for all. -/
theorem graph_room {n : NetL} {m : List Int} {most more : Int} {s : SpaceL} (h : graphL n m most = (s, 0)) (h1 : 1 ≤ more) (h2 : more ≤ 300) :
    graphL n m more = if (s.marks.length : Int) ≤ more then (s, 0) else (⟨[], []⟩, 4) := by
  obtain ⟨m1, m2, hf, hg, hF⟩ := graphL_ok h
  have hcut := graph_cut (n := n) (m := m) (more := more.toNat) (by omega) _ hg
  have hle := hF.most_le
  unfold graphL
  have hok : graphOk n m more = true := by simp only [graphOk, Bool.and_eq_true, decide_eq_true_eq]; exact ⟨⟨h1, h2⟩, hf⟩
  rw [hok]
  simp only [if_true]
  have key : graphTo n m more.toNat more.toNat = if s.marks.length ≤ more.toNat then some s else none := by
    rcases Nat.lt_or_ge more.toNat most.toNat with q | q
    · cases hx : graphTo n m more.toNat more.toNat with
      | none =>
        by_cases hl : s.marks.length ≤ more.toNat
        · rw [if_pos hl] at hcut
          have e : most.toNat = more.toNat + (most.toNat - more.toNat) := by omega
          rw [e] at hcut
          obtain ⟨s', hs'⟩ := graph_before _ _ hcut
          rw [hx] at hs'; cases hs'
        · rw [if_neg hl]
      | some s' =>
        have hF' := graphTo_found (most := more.toNat) (by omega) hf _ hx
        have hst := graph_stable hx hF'.most_le (most.toNat - more.toNat)
        rw [show more.toNat + (most.toNat - more.toNat) = most.toNat by omega, hcut] at hst
        by_cases hl : s.marks.length ≤ more.toNat
        · rw [if_pos hl] at hst ⊢; exact hst.symm
        · rw [if_neg hl] at hst; cases hst
    · rw [if_pos (by omega)] at hcut ⊢
      have := graph_stable hcut hle (more.toNat - most.toNat)
      rw [show most.toNat + (more.toNat - most.toNat) = more.toNat by omega] at this
      exact this
  rw [key]
  by_cases hl : s.marks.length ≤ more.toNat
  · rw [if_pos hl, if_pos (by omega)]
  · rw [if_neg hl, if_neg (by omega)]

/-- What Path answers. -/
def reachL (n : NetL) (m goal : List Int) (most : Int) : List Int × Int :=
  if (graphL n m most).2 == 0 then
    match findM (graphL n m most).1.marks goal with
    | some g => (pathL (graphL n m most).1 g, 0)
    | none => ([], 3)
  else ([], (graphL n m most).2)

theorem findM_at {ms : List (List Int)} (h : ms.Nodup) {k : Nat} (hk : k < ms.length) : findM ms (markAt ms k) = some k := by
  cases hf : findM ms (markAt ms k) with
  | none => exact absurd (markAt_mem hk) (findM_none hf)
  | some g =>
    obtain ⟨hg, e⟩ := findM_some hf
    rw [markAt_inj h hg hk e]

/-- Each mark is come to by its path, and by no run that is shorter. -/
theorem reach_true {n : NetL} {m : List Int} {most : Int} {s : SpaceL} (h : graphL n m most = (s, 0)) {k : Nat} (hk : k < s.marks.length) :
    ∃ p, reachL n m (markAt s.marks k) most = (p, 0) ∧ runL n m p = (markAt s.marks k, 0) ∧ ∀ seq, runL n m seq = (markAt s.marks k, 0) → p.length ≤ seq.length := by
  have hW := graphL_whole h
  refine ⟨pathL s k, ?_, hW.path k hk, fun seq hs => ?_⟩
  · unfold reachL
    rw [h]
    simp only [BEq.rfl, if_true]
    rw [findM_at hW.nodup hk]
  · have e := hW.here
    have := hW.short seq (f := 0) (g := k) e.1 hk (by rw [e.2]; exact hs)
    rw [pathL_zero] at this
    simpa using this

end Go.Proofs.YtjfcfnaeinhmcaaDoor
