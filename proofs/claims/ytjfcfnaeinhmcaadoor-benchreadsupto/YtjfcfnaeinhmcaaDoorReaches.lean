/- Plain facts on all marks that a net comes to. -/
import Derived.Test.YtjfcfnaeinhmcaaDoorReachBase
namespace Go.Proofs.YtjfcfnaeinhmcaaDoor
set_option linter.unusedVariables false
set_option maxRecDepth 4000

/-- What is found stays: more marks may come behind. -/
def Longer (s s' : SpaceL) : Prop := ∃ ms l, s'.marks = s.marks ++ ms ∧ s'.arcs = s.arcs ++ l
theorem Longer.refl (s : SpaceL) : Longer s s := ⟨[], [], by simp, by simp⟩
theorem Longer.trans {a b c : SpaceL} (h : Longer a b) (k : Longer b c) : Longer a c := by
  obtain ⟨m1, l1, e1, e2⟩ := h
  obtain ⟨m2, l2, e3, e4⟩ := k
  exact ⟨m1 ++ m2, l1 ++ l2, by rw [e3, e1, List.append_assoc], by rw [e4, e2, List.append_assoc]⟩
theorem Longer.le {a b : SpaceL} (h : Longer a b) : a.marks.length ≤ b.marks.length := by
  obtain ⟨m1, l1, e1, e2⟩ := h; rw [e1]; simp

theorem Found.skip {n : NetL} {m : List Int} {most k t : Nat} {s : SpaceL} (h : Found n m most k t s) (hf : (fireL n (markAt s.marks k) t).2 = 3) : Found n m most k (t + 1) s := by
  have hw : ∀ f j, f < s.marks.length → j < n.trans.length → (f < k ∨ f = k ∧ j < t + 1) → (fireL n (markAt s.marks f) j).2 = 3 ∨ ∃ g, (⟨f, j, g⟩ : ArcL) ∈ s.arcs := by
    intro f j h1 h2 h3
    by_cases e : f = k ∧ j = t
    · obtain ⟨rfl, rfl⟩ := e; exact .inl hf
    · exact h.whole f j h1 h2 (by omega)
  exact { h with whole := hw }

theorem tryT_found {n : NetL} {m : List Int} {most k t : Nat} {s s' : SpaceL} (h : Found n m most k t s) (hk : k < s.marks.length) (ht : t < n.trans.length) (e : tryT n most k s t = some s') :
    Found n m most k (t + 1) s' ∧ Longer s s' := by
  unfold tryT at e
  by_cases h3 : (fireL n (markAt s.marks k) t).2 = 3
  · rw [if_pos (by simp [h3])] at e
    injection e with e
    subst e
    exact ⟨h.skip h3, Longer.refl _⟩
  · rw [if_neg (by simp [h3])] at e
    by_cases h0 : (fireL n (markAt s.marks k) t).2 = 0
    · rw [if_pos (by simp [h0])] at e
      cases hf : findM s.marks (fireL n (markAt s.marks k) t).1 with
      | some g =>
        rw [hf] at e
        injection e with e
        subst e
        obtain ⟨hg, he⟩ := findM_some hf
        exact ⟨h.arc hk ht hg (by rw [he, ← h0]), [], [_], by simp, rfl⟩
      | none =>
        rw [hf] at e
        simp only at e
        by_cases hm : s.marks.length = most
        · rw [if_pos hm] at e; cases e
        · rw [if_neg hm] at e
          injection e with e
          subst e
          exact ⟨h.new hk ht (findM_none hf) (by have := h.most_le; omega) (by rw [← h0]), [_], [_], rfl, rfl⟩
    · rw [if_neg (by simp [h0])] at e; cases e

theorem rowTo_found {n : NetL} {m : List Int} {most k : Nat} {s : SpaceL} (h : Found n m most k 0 s) (hk : k < s.marks.length) : ∀ (t : Nat) {s' : SpaceL}, t ≤ n.trans.length → rowTo n most k s t = some s' →
    Found n m most k t s' ∧ Longer s s' := by
  intro t
  induction t with
  | zero => intro s' _ e; injection e with e; subst e; exact ⟨h, Longer.refl _⟩
  | succ t ih =>
    intro s' ht e
    simp only [rowTo, Option.bind_eq_some_iff] at e
    obtain ⟨s1, e1, e2⟩ := e
    obtain ⟨h1, l1⟩ := ih (by omega) e1
    obtain ⟨h2, l2⟩ := tryT_found h1 (Nat.lt_of_lt_of_le hk l1.le) (by omega) e2
    exact ⟨h2, l1.trans l2⟩

theorem Found.next {n : NetL} {m : List Int} {most k : Nat} {s : SpaceL} (h : Found n m most k n.trans.length s) : Found n m most (k + 1) 0 s :=
  { h with
    sound := fun a ha => by obtain ⟨h1, h2, h3, h4, h5⟩ := h.sound a ha; exact ⟨h1, h2, h3, by omega, h5⟩
    whole := fun f j h1 h2 h3 => h.whole f j h1 h2 (by omega) }
theorem Found.past {n : NetL} {m : List Int} {most k : Nat} {s : SpaceL} (h : Found n m most k 0 s) (hk : s.marks.length ≤ k) : Found n m most (k + 1) 0 s :=
  { h with
    sound := fun a ha => by obtain ⟨h1, h2, h3, h4, h5⟩ := h.sound a ha; exact ⟨h1, h2, h3, by omega, h5⟩
    whole := fun f j h1 h2 h3 => h.whole f j h1 h2 (by omega) }

theorem graphTo_found {n : NetL} {m : List Int} {most : Nat} (hm : 1 ≤ most) (hf : fitsL n m = true) : ∀ (k : Nat) {s : SpaceL}, graphTo n m most k = some s → Found n m most k 0 s := by
  intro k
  induction k with
  | zero => intro s e; injection e with e; subst e; exact Found.start hm hf
  | succ k ih =>
    intro s e
    simp only [graphTo, Option.bind_eq_some_iff] at e
    obtain ⟨s1, e1, e2⟩ := e
    have h1 := ih e1
    by_cases hk : k < s1.marks.length
    · rw [if_pos hk] at e2
      exact ((rowTo_found h1 hk _ (Nat.le_refl _) e2).1).next
    · rw [if_neg hk] at e2
      injection e2 with e2
      subst e2
      exact h1.past (by omega)

/-- All marks are found, and all firings. -/
def Whole (n : NetL) (m : List Int) (s : SpaceL) : Prop := ∃ most k, Found n m most k 0 s ∧ s.marks.length ≤ k

theorem graphL_ok {n : NetL} {m : List Int} {most : Int} {s : SpaceL} (h : graphL n m most = (s, 0)) : 1 ≤ most ∧ most ≤ 300 ∧ fitsL n m = true ∧ graphTo n m most.toNat most.toNat = some s ∧ Found n m most.toNat most.toNat 0 s := by
  unfold graphL at h
  cases ho : graphOk n m most
  · rw [ho] at h; simp at h
  · rw [ho] at h
    simp only [if_true] at h
    simp only [graphOk, Bool.and_eq_true, decide_eq_true_eq] at ho
    obtain ⟨⟨h1, h2⟩, h3⟩ := ho
    cases hg : graphTo n m most.toNat most.toNat with
    | none => rw [hg] at h; simp at h
    | some s' =>
      rw [hg] at h
      simp only [Prod.mk.injEq, and_true] at h
      subst h
      exact ⟨h1, h2, h3, rfl, graphTo_found (by omega) h3 _ hg⟩
theorem graphL_whole {n : NetL} {m : List Int} {most : Int} {s : SpaceL} (h : graphL n m most = (s, 0)) : Whole n m s := by
  obtain ⟨_, _, _, _, hF⟩ := graphL_ok h
  exact ⟨_, _, hF, hF.most_le⟩
theorem graphL_err {n : NetL} {m : List Int} {most : Int} (h : (graphL n m most).2 ≠ 0) : (graphL n m most).1 = ⟨[], []⟩ := by
  unfold graphL at *
  split
  · split
    · simp_all
    · rfl
  · rfl

/-- A firing from a mark that is there comes to one that is there; or it cannot be done. -/
theorem Whole.fire {n : NetL} {m : List Int} {s : SpaceL} (h : Whole n m s) {f : Nat} (hf : f < s.marks.length) (t : Int) :
    (fireL n (markAt s.marks f) t).2 = 3 ∨ ∃ (j : Nat) (g : Nat), t = j ∧ (⟨f, j, g⟩ : ArcL) ∈ s.arcs ∧ g < s.marks.length ∧ fireL n (markAt s.marks f) t = (markAt s.marks g, 0) := by
  obtain ⟨most, k, hF, hk⟩ := h
  by_cases ht : 0 ≤ t ∧ t < n.trans.length
  · obtain ⟨j, rfl⟩ := Int.eq_ofNat_of_zero_le ht.1
    rcases hF.whole f j hf (by omega) (by omega) with h3 | ⟨g, hg⟩
    · exact .inl h3
    · obtain ⟨_, q2, _, _, q5⟩ := hF.sound _ hg
      exact .inr ⟨j, g, rfl, hg, q2, q5⟩
  · left
    have hfit := hF.fits _ (markAt_mem hf)
    unfold fireL
    rw [hfit]
    have : (decide (0 ≤ t) && decide (t < n.trans.length)) = false := by
      rw [Bool.and_eq_false_iff, decide_eq_false_iff_not, decide_eq_false_iff_not]; omega
    rw [this]; simp

/-- Whoever is there goes nowhere else. -/
theorem Whole.run {n : NetL} {m : List Int} {s : SpaceL} (h : Whole n m s) (seq : List Int) : ∀ {f : Nat}, f < s.marks.length →
    (runL n (markAt s.marks f) seq).2 = 3 ∨ ∃ g, g < s.marks.length ∧ runL n (markAt s.marks f) seq = (markAt s.marks g, 0) := by
  induction seq with
  | nil =>
    intro f hf
    obtain ⟨most, k, hF, hk⟩ := h
    exact .inr ⟨f, hf, by rw [runL, hF.fits _ (markAt_mem hf)]; rfl⟩
  | cons t ts ih =>
    intro f hf
    have hfit : fitsL n (markAt s.marks f) = true := by obtain ⟨most, k, hF, hk⟩ := h; exact hF.fits _ (markAt_mem hf)
    rw [runL, hfit]
    rcases h.fire hf t with h3 | ⟨j, g, rfl, _, hg, e⟩
    · left; rw [h3]; simp
    · rw [e]
      simp only [BEq.rfl, if_true]
      exact ih hg
theorem Whole.here {n : NetL} {m : List Int} {s : SpaceL} (h : Whole n m s) : 0 < s.marks.length ∧ markAt s.marks 0 = m := by
  obtain ⟨most, k, hF, hk⟩ := h; exact ⟨hF.pos, hF.first⟩
theorem Whole.nodup {n : NetL} {m : List Int} {s : SpaceL} (h : Whole n m s) : s.marks.Nodup := by
  obtain ⟨most, k, hF, hk⟩ := h; exact hF.nodup
theorem markAt_inj {ms : List (List Int)} (h : ms.Nodup) {i j : Nat} (hi : i < ms.length) (hj : j < ms.length) (e : markAt ms i = markAt ms j) : i = j := by
  rw [markAt, markAt, List.getD_eq_getElem?_getD, List.getD_eq_getElem?_getD, List.getElem?_eq_getElem hi, List.getElem?_eq_getElem hj] at e
  have e' : ms[i] = ms[j] := by simpa using e
  have hp := List.pairwise_iff_getElem.1 h
  rcases Nat.lt_trichotomy i j with q | q | q
  · exact absurd e' (hp i j hi hj q)
  · exact q
  · exact absurd e'.symm (hp j i hj hi q)

/-- How far a mark is from the first one, and how it is come to. -/
def pathTo (l : List ArcL) : Nat → Nat → List Int
  | 0, _ => []
  | fuel + 1, g => if g = 0 then [] else match firstTo l g with
    | some a => pathTo l fuel a.frm ++ [(a.tran : Int)]
    | none => []
def pathL (s : SpaceL) (g : Nat) : List Int := pathTo s.arcs g g

theorem pathTo_enough {n : NetL} {m : List Int} {most k t : Nat} {s : SpaceL} (h : Found n m most k t s) : ∀ (f g : Nat), g ≤ f → g < s.marks.length → pathTo s.arcs f g = pathL s g := by
  intro f
  induction f using Nat.strongRecOn with
  | ind f ih =>
    intro g hgf hg
    unfold pathL
    cases g with
    | zero => cases f <;> rfl
    | succ g =>
      cases f with
      | zero => omega
      | succ f =>
        obtain ⟨a, h1, h2⟩ := h.par (g + 1) (by omega) hg
        simp only [pathTo, h1, Nat.add_eq_zero_iff, Nat.succ_ne_self, and_false, if_false]
        rw [ih f (by omega) a.frm (by omega) (by omega)]
        congr 1
        by_cases e : g = f
        · subst e; exact (ih g (by omega) a.frm (by omega) (by omega)).symm
        · exact (ih g (by omega) a.frm (by omega) (by omega)).symm

theorem pathL_zero (s : SpaceL) : pathL s 0 = [] := rfl
theorem pathL_step {n : NetL} {m : List Int} {most k t : Nat} {s : SpaceL} (h : Found n m most k t s) {g : Nat} (h0 : 0 < g) (hg : g < s.marks.length) {a : ArcL} (ha : firstTo s.arcs g = some a) :
    pathL s g = pathL s a.frm ++ [(a.tran : Int)] := by
  obtain ⟨a', h1, h2⟩ := h.par g h0 hg
  rw [ha] at h1
  injection h1 with h1
  subst h1
  unfold pathL
  cases g with
  | zero => omega
  | succ g =>
    simp only [pathTo, ha, Nat.add_eq_zero_iff, and_false, if_false, Nat.one_ne_zero]
    rw [pathTo_enough h g a.frm (by omega) (by omega)]
    rfl

/-- A path leads where it says. -/
theorem Whole.path {n : NetL} {m : List Int} {s : SpaceL} (h : Whole n m s) : ∀ g, g < s.marks.length → runL n m (pathL s g) = (markAt s.marks g, 0) := by
  have h' := h
  obtain ⟨most, k, hF, hk⟩ := h
  intro g
  induction g using Nat.strongRecOn with
  | ind g ih =>
    intro hg
    by_cases h0 : g = 0
    · subst h0
      rw [pathL_zero, hF.first, runL]
      have := hF.fits _ (markAt_mem hF.pos)
      rw [hF.first] at this
      rw [this]; rfl
    · obtain ⟨a, h1, h2⟩ := hF.par g (by omega) hg
      rw [pathL_step hF (by omega) hg h1, run_append, ih a.frm h2 (by omega)]
      simp only [BEq.rfl, if_true]
      obtain ⟨q1, q2, q3, q4, q5⟩ := hF.sound a (firstTo_mem h1).1
      rw [run_cons]
      refine ⟨_, q5, ?_⟩
      rw [(firstTo_mem h1).2, run_nil]
      exact ⟨hF.fits _ (markAt_mem hg), rfl⟩

theorem depth_mono {n : NetL} {m : List Int} {most k t : Nat} {s : SpaceL} (h : Found n m most k t s) : ∀ j, ∀ i, i ≤ j → j < s.marks.length → (pathL s i).length ≤ (pathL s j).length := by
  intro j
  induction j using Nat.strongRecOn with
  | ind j ih =>
    intro i hij hj
    by_cases h0 : i = 0
    · subst h0; simp [pathL_zero]
    · obtain ⟨a, h1, h2⟩ := h.par i (by omega) (by omega)
      obtain ⟨b, h3, h4⟩ := h.par j (by omega) hj
      rw [pathL_step h (by omega) (by omega) h1, pathL_step h (by omega) hj h3]
      simp only [List.length_append, List.length_singleton]
      have := ih b.frm h4 a.frm (h.mono i j a b (by omega) hij h1 h3 hj) (by omega)
      omega
theorem depth_arc {n : NetL} {m : List Int} {most k t : Nat} {s : SpaceL} (h : Found n m most k t s) {a : ArcL} (ha : a ∈ s.arcs) : (pathL s a.dst).length ≤ (pathL s a.frm).length + 1 := by
  obtain ⟨q1, q2, _, _, _⟩ := h.sound a ha
  by_cases h0 : a.dst = 0
  · rw [h0]; simp [pathL_zero]
  · obtain ⟨b, h1, h2⟩ := h.par a.dst (by omega) q2
    rw [pathL_step h (by omega) q2 h1]
    simp only [List.length_append, List.length_singleton]
    have := depth_mono h a.frm b.frm (h.early a b ha h1) q1
    omega

/-- No run that is shorter leads there. -/
theorem Whole.short {n : NetL} {m : List Int} {s : SpaceL} (h : Whole n m s) (seq : List Int) : ∀ {f g : Nat}, f < s.marks.length → g < s.marks.length → runL n (markAt s.marks f) seq = (markAt s.marks g, 0) →
    (pathL s g).length ≤ (pathL s f).length + seq.length := by
  induction seq with
  | nil =>
    intro f g hf hg e
    obtain ⟨_, e2⟩ := run_nil.1 e
    rw [markAt_inj h.nodup hg hf e2]
    simp
  | cons t ts ih =>
    intro f g hf hg e
    obtain ⟨x, e1, e2⟩ := run_cons.1 e
    rcases h.fire hf t with h3 | ⟨j, q, rfl, ha, hq, e3⟩
    · rw [e1] at h3; cases h3
    · rw [e1] at e3
      injection e3 with e3 _
      subst e3
      have h1 := ih hq hg e2
      obtain ⟨most, k, hF, hk⟩ := h
      have h2 := depth_arc hF ha
      simp only [List.length_cons] at *
      omega

end Go.Proofs.YtjfcfnaeinhmcaaDoor
