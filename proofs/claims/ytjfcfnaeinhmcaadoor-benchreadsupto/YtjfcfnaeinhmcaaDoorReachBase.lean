/- Plain words for all marks that a net comes to. -/
import Derived.Test.YtjfcfnaeinhmcaaDoorNets
namespace Go.Proofs.YtjfcfnaeinhmcaaDoor
set_option linter.unusedVariables false
set_option maxRecDepth 4000

/-- An arc: from, by, to. -/
structure ArcL where
  frm : Nat
  tran : Nat
  dst : Nat

/-- All marks, and how. -/
structure SpaceL where
  marks : List (List Int)
  arcs : List ArcL

/-- Where a mark is found, if it is. -/
def findM (ms : List (List Int)) (x : List Int) : Option Nat := ms.findIdx? (· == x)
def markAt (ms : List (List Int)) (k : Nat) : List Int := ms.getD k []

theorem findM_some {ms : List (List Int)} {x : List Int} {k : Nat} (h : findM ms x = some k) : k < ms.length ∧ markAt ms k = x := by
  obtain ⟨hk, h1, _⟩ := List.findIdx?_eq_some_iff_getElem.1 h
  refine ⟨hk, ?_⟩
  rw [markAt, List.getD_eq_getElem?_getD, List.getElem?_eq_getElem hk]
  simpa using h1
theorem findM_none {ms : List (List Int)} {x : List Int} (h : findM ms x = none) : x ∉ ms := by
  intro hx
  have := List.findIdx?_eq_none_iff.1 h x hx
  simp at this
theorem markAt_mem {ms : List (List Int)} {k : Nat} (h : k < ms.length) : markAt ms k ∈ ms := by
  rw [markAt, List.getD_eq_getElem?_getD, List.getElem?_eq_getElem h]; exact List.getElem_mem h
theorem markAt_append {ms ns : List (List Int)} {k : Nat} (h : k < ms.length) : markAt (ms ++ ns) k = markAt ms k := by
  rw [markAt, markAt, List.getD_eq_getElem?_getD, List.getD_eq_getElem?_getD, List.getElem?_append_left h]
theorem markAt_last (ms : List (List Int)) (x : List Int) : markAt (ms ++ [x]) ms.length = x := by
  rw [markAt, List.getD_eq_getElem?_getD, List.getElem?_append_right (Nat.le_refl _)]; simp

/-- A transition is tried at a mark. -/
def tryT (n : NetL) (most : Nat) (k : Nat) (s : SpaceL) (t : Nat) : Option SpaceL :=
  if (fireL n (markAt s.marks k) t).2 == 3 then some s
  else if (fireL n (markAt s.marks k) t).2 == 0 then
    match findM s.marks (fireL n (markAt s.marks k) t).1 with
    | some g => some ⟨s.marks, s.arcs ++ [⟨k, t, g⟩]⟩
    | none => if s.marks.length = most then none else some ⟨s.marks ++ [(fireL n (markAt s.marks k) t).1], s.arcs ++ [⟨k, t, s.marks.length⟩]⟩
  else none

/-- The first t transitions are tried at mark k. -/
def rowTo (n : NetL) (most k : Nat) (s : SpaceL) : Nat → Option SpaceL
  | 0 => some s
  | t + 1 => (rowTo n most k s t).bind fun s' => tryT n most k s' t

/-- The first k marks are done. -/
def graphTo (n : NetL) (m : List Int) (most : Nat) : Nat → Option SpaceL
  | 0 => some ⟨[m], []⟩
  | k + 1 => (graphTo n m most k).bind fun s => if k < s.marks.length then rowTo n most k s n.trans.length else some s

def graphOk (n : NetL) (m : List Int) (most : Int) : Bool := decide (1 ≤ most) && decide (most ≤ 300) && fitsL n m
def graphL (n : NetL) (m : List Int) (most : Int) : SpaceL × Int :=
  if graphOk n m most then
    match graphTo n m most.toNat most.toNat with
    | some s => (s, 0)
    | none => (⟨[], []⟩, 4)
  else (⟨[], []⟩, 2)

/-- The first arc to a mark. -/
def firstTo (l : List ArcL) (g : Nat) : Option ArcL := l.find? fun a => a.dst == g

/-- What holds while marks are found: k marks are done, and t transitions of mark k. -/
structure Found (n : NetL) (m : List Int) (most k t : Nat) (s : SpaceL) : Prop where
  most_le : s.marks.length ≤ most
  pos : 0 < s.marks.length
  first : markAt s.marks 0 = m
  nodup : s.marks.Nodup
  fits : ∀ x ∈ s.marks, fitsL n x = true
  sound : ∀ a ∈ s.arcs, a.frm < s.marks.length ∧ a.dst < s.marks.length ∧ a.tran < n.trans.length ∧ a.frm ≤ k ∧ fireL n (markAt s.marks a.frm) a.tran = (markAt s.marks a.dst, 0)
  whole : ∀ f j, f < s.marks.length → j < n.trans.length → (f < k ∨ f = k ∧ j < t) → (fireL n (markAt s.marks f) j).2 = 3 ∨ ∃ g, (⟨f, j, g⟩ : ArcL) ∈ s.arcs
  par : ∀ g, 0 < g → g < s.marks.length → ∃ a, firstTo s.arcs g = some a ∧ a.frm < g
  mono : ∀ g h a b, 0 < g → g ≤ h → firstTo s.arcs g = some a → firstTo s.arcs h = some b → h < s.marks.length → a.frm ≤ b.frm
  early : ∀ a b, a ∈ s.arcs → firstTo s.arcs a.dst = some b → b.frm ≤ a.frm

theorem firstTo_append {l : List ArcL} {g : Nat} {a b : ArcL} (h : firstTo l g = some a) : firstTo (l ++ [b]) g = some a := by
  unfold firstTo at *; rw [List.find?_append, h]; rfl
theorem firstTo_new {l : List ArcL} {g : Nat} {b : ArcL} (h : firstTo l g = none) (hb : b.dst = g) : firstTo (l ++ [b]) g = some b := by
  unfold firstTo at *; rw [List.find?_append, h]; simp [hb]
theorem firstTo_other {l : List ArcL} {g : Nat} {b : ArcL} (hb : b.dst ≠ g) : firstTo (l ++ [b]) g = firstTo l g := by
  unfold firstTo; rw [List.find?_append]
  cases l.find? (fun a => a.dst == g) with
  | some a => rfl
  | none => simp [hb]
theorem firstTo_mem {l : List ArcL} {g : Nat} {a : ArcL} (h : firstTo l g = some a) : a ∈ l ∧ a.dst = g := by
  unfold firstTo at h
  exact ⟨List.mem_of_find?_eq_some h, by simpa using List.find?_some h⟩
theorem firstTo_none {l : List ArcL} {g : Nat} (h : ∀ a ∈ l, a.dst ≠ g) : firstTo l g = none := by
  unfold firstTo; rw [List.find?_eq_none]; intro a ha; simpa using h a ha

theorem Found.start {n : NetL} {m : List Int} {most : Nat} (hm : 1 ≤ most) (hf : fitsL n m = true) : Found n m most 0 0 ⟨[m], []⟩ where
  most_le := hm
  pos := Nat.one_pos
  first := rfl
  nodup := by simp
  fits := by simp [hf]
  sound := by simp
  whole := by intro f j h1 h2 h3; omega
  par := by intro g h1 h2; simp at h2; omega
  mono := by intro g h a b h1 h2 h3; simp [firstTo] at h3
  early := by simp

/-- One more arc, to a mark that was there. -/
theorem Found.arc {n : NetL} {m : List Int} {most k t g : Nat} {s : SpaceL} (h : Found n m most k t s) (hk : k < s.marks.length) (ht : t < n.trans.length) (hg : g < s.marks.length)
    (hf : fireL n (markAt s.marks k) t = (markAt s.marks g, 0)) : Found n m most k (t + 1) ⟨s.marks, s.arcs ++ [⟨k, t, g⟩]⟩ where
  most_le := h.most_le
  pos := h.pos
  first := h.first
  nodup := h.nodup
  fits := h.fits
  sound := by
    intro a ha
    rcases List.mem_append.1 ha with ha | ha
    · exact h.sound a ha
    · rw [List.mem_singleton] at ha; subst ha; exact ⟨hk, hg, ht, Nat.le_refl _, hf⟩
  whole := by
    intro f j h1 h2 h3
    by_cases e : f = k ∧ j = t
    · obtain ⟨rfl, rfl⟩ := e; exact .inr ⟨g, List.mem_append_right _ (List.mem_singleton.2 rfl)⟩
    · rcases h.whole f j h1 h2 (by omega) with h4 | ⟨g', h4⟩
      · exact .inl h4
      · exact .inr ⟨g', List.mem_append_left _ h4⟩
  par := by
    intro g' h1 h2
    obtain ⟨a, h3, h4⟩ := h.par g' h1 h2
    exact ⟨a, firstTo_append h3, h4⟩
  mono := by
    intro g1 g2 a b h1 h2 h3 h4 h5
    obtain ⟨a', h6, _⟩ := h.par g1 h1 (Nat.lt_of_le_of_lt h2 h5)
    obtain ⟨b', h7, _⟩ := h.par g2 (by omega) h5
    rw [firstTo_append h6] at h3
    rw [firstTo_append h7] at h4
    injection h3 with h3
    injection h4 with h4
    subst h3 h4
    exact h.mono g1 g2 _ _ h1 h2 h6 h7 h5
  early := by
    intro a b ha hb
    rcases List.mem_append.1 ha with ha | ha
    · cases he : firstTo s.arcs a.dst with
      | some c => rw [firstTo_append he] at hb; injection hb with hb; subst hb; exact h.early a _ ha he
      | none =>
        unfold firstTo at he
        rw [List.find?_eq_none] at he
        exact absurd (he a ha) (by simp)
    · rw [List.mem_singleton] at ha
      subst ha
      rcases List.mem_append.1 (firstTo_mem hb).1 with hb' | hb'
      · exact (h.sound b hb').2.2.2.1
      · rw [List.mem_singleton] at hb'; subst hb'; exact Nat.le_refl _

/-- One more arc, to a new mark. -/
theorem Found.new {n : NetL} {m x : List Int} {most k t : Nat} {s : SpaceL} (h : Found n m most k t s) (hk : k < s.marks.length) (ht : t < n.trans.length) (hx : x ∉ s.marks) (hlt : s.marks.length < most)
    (hf : fireL n (markAt s.marks k) t = (x, 0)) : Found n m most k (t + 1) ⟨s.marks ++ [x], s.arcs ++ [⟨k, t, s.marks.length⟩]⟩ where
  most_le := by simp; omega
  pos := by simp
  first := by show markAt (s.marks ++ [x]) 0 = m; rw [markAt_append h.pos]; exact h.first
  nodup := by
    show (s.marks ++ [x]).Nodup
    rw [List.nodup_append]
    exact ⟨h.nodup, by simp, fun a ha b hb e => by rw [List.mem_singleton] at hb; subst hb; subst e; exact hx ha⟩
  fits := by
    intro y hy
    rcases List.mem_append.1 hy with hy | hy
    · exact h.fits y hy
    · rw [List.mem_singleton] at hy; subst hy; exact fire_fits hf
  sound := by
    intro a ha
    have hl : (s.marks ++ [x]).length = s.marks.length + 1 := by simp
    rcases List.mem_append.1 ha with ha | ha
    · obtain ⟨h1, h2, h3, h4, h5⟩ := h.sound a ha
      show a.frm < (s.marks ++ [x]).length ∧ a.dst < (s.marks ++ [x]).length ∧ a.tran < n.trans.length ∧ a.frm ≤ k ∧ fireL n (markAt (s.marks ++ [x]) a.frm) a.tran = (markAt (s.marks ++ [x]) a.dst, 0)
      rw [markAt_append h1, markAt_append h2, hl]
      exact ⟨by omega, by omega, h3, h4, h5⟩
    · rw [List.mem_singleton] at ha
      subst ha
      show k < (s.marks ++ [x]).length ∧ s.marks.length < (s.marks ++ [x]).length ∧ t < n.trans.length ∧ k ≤ k ∧ fireL n (markAt (s.marks ++ [x]) k) t = (markAt (s.marks ++ [x]) s.marks.length, 0)
      rw [markAt_append hk, markAt_last, hl]
      exact ⟨by omega, by omega, ht, Nat.le_refl _, hf⟩
  whole := by
    intro f j h1 h2 h3
    show (fireL n (markAt (s.marks ++ [x]) f) j).2 = 3 ∨ ∃ g, _ ∈ s.arcs ++ _
    have hfl : f < s.marks.length := by omega
    rw [markAt_append hfl]
    by_cases e : f = k ∧ j = t
    · obtain ⟨rfl, rfl⟩ := e; exact .inr ⟨s.marks.length, List.mem_append_right _ (List.mem_singleton.2 rfl)⟩
    · rcases h.whole f j hfl h2 (by omega) with h4 | ⟨g', h4⟩
      · exact .inl h4
      · exact .inr ⟨g', List.mem_append_left _ h4⟩
  par := by
    intro g h1 h2
    have hl : (s.marks ++ [x]).length = s.marks.length + 1 := by simp
    by_cases hg : g < s.marks.length
    · obtain ⟨a, h3, h4⟩ := h.par g h1 hg
      exact ⟨a, firstTo_append h3, h4⟩
    · have e : g = s.marks.length := by simp only [hl] at h2; omega
      exact ⟨⟨k, t, s.marks.length⟩, firstTo_new (firstTo_none fun a ha => by have := (h.sound a ha).2.1; omega) e.symm, by show k < g; omega⟩
  mono := by
    intro g1 g2 a b h1 h2 h3 h4 h5
    have hl : (s.marks ++ [x]).length = s.marks.length + 1 := by simp
    have hno : firstTo s.arcs s.marks.length = none := firstTo_none fun a ha => by have := (h.sound a ha).2.1; omega
    by_cases hg2 : g2 < s.marks.length
    · obtain ⟨a', h6, _⟩ := h.par g1 h1 (Nat.lt_of_le_of_lt h2 hg2)
      obtain ⟨b', h7, _⟩ := h.par g2 (by omega) hg2
      rw [firstTo_append h6] at h3
      rw [firstTo_append h7] at h4
      injection h3 with h3
      injection h4 with h4
      subst h3 h4
      exact h.mono g1 g2 _ _ h1 h2 h6 h7 hg2
    · have e : g2 = s.marks.length := by simp only [hl] at h5; omega
      subst e
      rw [firstTo_new hno rfl] at h4
      injection h4 with h4
      subst h4
      rcases List.mem_append.1 (firstTo_mem h3).1 with hb' | hb'
      · exact (h.sound a hb').2.2.2.1
      · rw [List.mem_singleton] at hb'; subst hb'; exact Nat.le_refl _
  early := by
    intro a b ha hb
    rcases List.mem_append.1 ha with ha | ha
    · cases he : firstTo s.arcs a.dst with
      | some c => rw [firstTo_append he] at hb; injection hb with hb; subst hb; exact h.early a _ ha he
      | none =>
        unfold firstTo at he
        rw [List.find?_eq_none] at he
        exact absurd (he a ha) (by simp)
    · rw [List.mem_singleton] at ha
      subst ha
      rcases List.mem_append.1 (firstTo_mem hb).1 with hb' | hb'
      · exact (h.sound b hb').2.2.2.1
      · rw [List.mem_singleton] at hb'; subst hb'; exact Nat.le_refl _

end Go.Proofs.YtjfcfnaeinhmcaaDoor
