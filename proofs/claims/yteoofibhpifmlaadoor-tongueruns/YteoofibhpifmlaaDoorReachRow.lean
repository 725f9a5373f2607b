/- The marks that are come to from one mark, transition by transition: only those that can fire need be tried. -/
import Derived.Test.YteoofibhpifmlaaDoorReach1
namespace Go.Proofs.YteoofibhpifmlaaDoor
set_option linter.unusedVariables false
set_option maxRecDepth 4000

/-- These transitions are tried at mark k. -/
def rowOn (n : NetL) (M k : Nat) (s : SpaceL) (ts : List Nat) : Option SpaceL := ts.foldlM (tryT n M k) s

theorem rowOn_nil (n : NetL) (M k : Nat) (s : SpaceL) : rowOn n M k s [] = some s := rfl
theorem rowOn_snoc (n : NetL) (M k : Nat) (s : SpaceL) (ts : List Nat) (t : Nat) : rowOn n M k s (ts ++ [t]) = (rowOn n M k s ts).bind fun s' => tryT n M k s' t := by
  unfold rowOn
  rw [List.foldlM_append]
  cases h : ts.foldlM (tryT n M k) s with
  | none => rfl
  | some s' =>
    show ([t].foldlM (tryT n M k) s') = tryT n M k s' t
    rw [List.foldlM_cons]
    cases tryT n M k s' t <;> rfl

theorem rowOn_none {n : NetL} {M k : Nat} {s : SpaceL} {ts : List Nat} {us : List Nat} (h : rowOn n M k s ts = none) : rowOn n M k s (ts ++ us) = none := by
  unfold rowOn at *
  rw [List.foldlM_append, h]
  rfl

theorem tryT_pre {n : NetL} {M k t : Nat} {s s' : SpaceL} (e : tryT n M k s t = some s') : ∃ r, s'.marks = s.marks ++ r := by
  unfold tryT at e
  split at e
  · injection e with e; subst e; exact ⟨[], by simp⟩
  · split at e
    · split at e
      · injection e with e; subst e; exact ⟨[], by simp⟩
      · split at e
        · cases e
        · injection e with e; subst e; exact ⟨_, rfl⟩
    · cases e

theorem rowTo_pre {n : NetL} {M k : Nat} {s : SpaceL} : ∀ (t : Nat) {s' : SpaceL}, rowTo n M k s t = some s' → ∃ r, s'.marks = s.marks ++ r := by
  intro t
  induction t with
  | zero => intro s' e; injection e with e; subst e; exact ⟨[], by simp⟩
  | succ t ih =>
    intro s' e
    simp only [rowTo, Option.bind_eq_some_iff] at e
    obtain ⟨s1, e1, e2⟩ := e
    obtain ⟨r1, h1⟩ := ih e1
    obtain ⟨r2, h2⟩ := tryT_pre e2
    exact ⟨r1 ++ r2, by rw [h2, h1, List.append_assoc]⟩

/-- Those that can fire at m, rising. -/
def canN (n : NetL) (m : List Int) (T : Nat) : List Nat := (List.range T).filter fun t => coversL m (tranAt n.trans t).pre
theorem canTo_canN (n : NetL) (m : List Int) (T : Nat) : canTo n m T = (canN n m T).map fun t => ((t : Nat) : Int) := rfl

theorem rowTo_on {n : NetL} {M k : Nat} {s : SpaceL} (hk : k < s.marks.length) (hf : fitsL n (markAt s.marks k) = true) : ∀ T, T ≤ n.trans.length → rowTo n M k s T = rowOn n M k s (canN n (markAt s.marks k) T) := by
  intro T
  induction T with
  | zero => intro _; rfl
  | succ T ih =>
    intro hT
    have h1 := ih (by omega)
    rw [rowTo]
    unfold canN
    rw [List.range_succ, List.filter_append]
    cases hc : coversL (markAt s.marks k) (tranAt n.trans T).pre with
    | true =>
      rw [show ([T].filter fun t => coversL (markAt s.marks k) (tranAt n.trans t).pre) = [T] by simp [hc]]
      rw [rowOn_snoc, h1]
      rfl
    | false =>
      rw [show ([T].filter fun t => coversL (markAt s.marks k) (tranAt n.trans t).pre) = [] by simp [hc], List.append_nil]
      cases hr : rowTo n M k s T with
      | none => rw [hr] at h1; show none = _; exact h1
      | some s' =>
        rw [hr] at h1
        show tryT n M k s' T = _
        obtain ⟨r, hm⟩ := rowTo_pre T hr
        have hmk : markAt s'.marks k = markAt s.marks k := by rw [hm]; exact markAt_append hk
        have h3 : fireL n (markAt s'.marks k) T = ([], 3) := by
          rw [hmk, fireL, hf]
          simp [hc]
        rw [tryT_skip h3]
        exact h1

/-- How each mark was found first. -/
structure Tied (s : SpaceL) (bys : List ArcL) : Prop where
  len : bys.length = s.marks.length
  dst : ∀ a ∈ s.arcs, a.dst < s.marks.length
  first : ∀ g, 0 < g → g < s.marks.length → firstTo s.arcs g = bys[g]?

theorem tied_start (m : List Int) (a : ArcL) : Tied ⟨[m], []⟩ [a] := ⟨rfl, by simp, fun g h1 h2 => by simp at h2; omega⟩

theorem Tied.old {s : SpaceL} {bys : List ArcL} (h : Tied s bys) {f t g : Nat} (hg : g < s.marks.length) : Tied ⟨s.marks, s.arcs ++ [⟨f, t, g⟩]⟩ bys := by
  refine ⟨h.len, fun a ha => ?_, fun g' h1 h2 => ?_⟩
  · rcases List.mem_append.1 ha with ha | ha
    · exact h.dst a ha
    · rw [List.mem_singleton] at ha; subst ha; exact hg
  · have e := h.first g' h1 h2
    have hb : g' < bys.length := by rw [h.len]; exact h2
    rw [List.getElem?_eq_getElem hb] at e ⊢
    exact firstTo_append e

theorem Tied.new {s : SpaceL} {bys : List ArcL} (h : Tied s bys) (z : List Int) {f t l : Nat} (hl : l = s.marks.length) : Tied ⟨s.marks ++ [z], s.arcs ++ [⟨f, t, l⟩]⟩ (bys ++ [⟨f, t, l⟩]) := by
  subst hl
  refine ⟨by simp [h.len], fun a ha => ?_, fun g' h1 h2 => ?_⟩
  · rcases List.mem_append.1 ha with ha | ha
    · have := h.dst a ha; simp; omega
    · rw [List.mem_singleton] at ha; subst ha; simp
  · by_cases hg : g' < s.marks.length
    · have e := h.first g' h1 hg
      have hb : g' < bys.length := by rw [h.len]; exact hg
      rw [List.getElem?_append_left hb]
      rw [List.getElem?_eq_getElem hb] at e ⊢
      exact firstTo_append e
    · have e : g' = s.marks.length := by simp at h2; omega
      subst e
      have hn : firstTo s.arcs s.marks.length = none := firstTo_none fun a ha => by have := h.dst a ha; omega
      rw [firstTo_new hn rfl, ← h.len, List.getElem?_append_right (Nat.le_refl _)]
      simp

end Go.Proofs.YteoofibhpifmlaaDoor
