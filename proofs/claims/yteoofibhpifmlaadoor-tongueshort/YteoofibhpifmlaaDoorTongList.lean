/- All words of a net up to some length, plainly: level by level. -/
import Derived.Test.YteoofibhpifmlaaDoorShortLex
import Derived.Test.YteoofibhpifmlaaDoorTongNear
namespace Go.Proofs.YteoofibhpifmlaaDoor
set_option linter.unusedVariables false
set_option maxRecDepth 4000

/-- A beginning that some word of up to most letters has. -/
def BeginI (n : NetL) (s : SpaceL) (E : List Int) (most : Int) (ws : List Int) : Prop := ∃ r, ToEnd n s E 0 (ws ++ r) ∧ ((ws ++ r).length : Int) ≤ most
/-- Where one is behind ws, if it may still become a word. -/
def AtN (n : NetL) (s : SpaceL) (t : TalkL) (most : Int) (ws : List Int) (q : SetL) : Prop := ∀ j, j < 320 → (q.has j = true ↔ Way s.arcs (labT n) 0 ws j ∧ nth t.least j ≤ most - ws.length)

theorem AtN.lt {n : NetL} {S : List Int} {s : SpaceL} {t : TalkL} {most : Int} {ws : List Int} {q : SetL} (h : AtN n s t most ws q) (hW : Whole n S s) : ∀ m, m < 320 → q.has m = true → m < s.marks.length := fun m hm hh =>
  ((h m hm).1 hh).1.end_lt (fun a ha => (hW.sound a ha).2.1) hW.here.1
theorem AtN.first {n : NetL} {S E : List Int} {s : SpaceL} {t : TalkL} {most : Int} {q : SetL} (hW : Whole n S s) (hN : s.marks.length ≤ 300) (hT : TalkOk n s E t) (hq : NearTo t most t.n q) : AtN n s t most [] (andS t.bg q) := by
  intro j hj
  rw [has_and, Bool.and_eq_true, hT.bg j hj, hq j hj, hT.size]
  simp only [List.length_nil, Int.natCast_zero, Int.sub_zero]
  constructor
  · rintro ⟨h1, h2, h3⟩; exact ⟨h1, h3⟩
  · rintro ⟨h1, h2⟩; exact ⟨h1, h1.end_lt (fun a ha => (hW.sound a ha).2.1) hW.here.1, h2⟩
/-- One letter more. -/
theorem AtN.next {n : NetL} {S E : List Int} {s : SpaceL} {t : TalkL} {most : Int} {ws : List Int} {l : Int} {q u nr : SetL} (h : AtN n s t most ws q) (hW : Whole n S s) (hN : s.marks.length ≤ 300) (hok : netOk n = true) (hT : TalkOk n s E t)
    (hb : BehindT t q l u) (hn : NearTo t (most - ws.length - 1) t.n nr) : AtN n s t most (ws ++ [l]) (andS u nr) := by
  intro j hj
  have hsz := hT.size
  rw [has_and, Bool.and_eq_true, hb j hj, hn j hj, Way.last]
  simp only [List.length_append, List.length_cons, List.length_nil]
  constructor
  · rintro ⟨⟨h1, h2, m, hm, hu, hx⟩, h3, h4⟩
    obtain ⟨a, ha, q1, q2, q3⟩ := (hT.next m l.toNat hm (by omega) (by omega) j hj).1 hx
    refine ⟨⟨a, ha, ?_, by rw [q2]; omega, by omega, q3⟩, by omega⟩
    rw [q1]
    exact ((h m (by omega)).1 hu).1
  · rintro ⟨⟨a, ha, h1, h2, h3, h4⟩, h5⟩
    obtain ⟨b1, b2, b3, _⟩ := hW.sound a ha
    have hl := lab_ok hok _ b3
    rw [h2] at hl
    have hjN : j < s.marks.length := h4.end_lt (fun a ha => (hW.sound a ha).2.1) b2
    refine ⟨⟨by omega, hl.2, a.frm, by omega, (h a.frm (by omega)).2 ⟨h1, ?_⟩, (hT.next a.frm l.toNat (by omega) (by omega) (by omega) j hj).2 ⟨a, ha, rfl, by rw [h2]; omega, h4⟩⟩, by omega, by omega⟩
    -- the way from there to the end is one letter longer, at most
    by_cases h300 : nth t.least j < 300
    · obtain ⟨w', ⟨e, e1, e2, e3⟩, hw'⟩ := hT.least.sound j hjN h300
      have hway : Way s.arcs (labT n) a.frm (l :: w') e := by
        have := (Way.arc (lb := labT n) ha (by rw [h2]; exact h3)).append (h4.append e3)
        rw [h2] at this
        exact this
      have := (hT.least.least a.frm b1 (l :: w') ⟨e, e1, e2, hway⟩).1
      simp only [List.length_cons] at this
      omega
    · have := (hT.least.pos a.frm b1).2
      have := (hT.least.pos j hjN).2
      omega
theorem AtN.some {n : NetL} {S E : List Int} {s : SpaceL} {t : TalkL} {most : Int} {ws : List Int} {q : SetL} (h : AtN n s t most ws q) (hW : Whole n S s) (hN : s.marks.length ≤ 300) (hm : most < 300) (hT : TalkOk n s E t) : emptyS q = false ↔ BeginI n s E most ws := by
  rw [← Bool.not_eq_true, emptyS_iff]
  constructor
  · intro hne
    obtain ⟨j, hj, hq⟩ : ∃ j, j < 320 ∧ q.has j = true := Classical.byContradiction fun hno => hne fun m hm => by
      cases hh : q.has m
      · rfl
      · exact absurd ⟨m, hm, hh⟩ hno
    obtain ⟨h1, h2⟩ := (h j hj).1 hq
    have hjN : j < s.marks.length := h1.end_lt (fun a ha => (hW.sound a ha).2.1) hW.here.1
    obtain ⟨r, ⟨e, e1, e2, e3⟩, hr⟩ := hT.least.sound j hjN (by omega)
    exact ⟨r, ⟨e, e1, e2, h1.append e3⟩, by simp only [List.length_append]; omega⟩
  · rintro ⟨r, ⟨e, e1, e2, e3⟩, hr⟩ hno
    obtain ⟨m, h1, h2⟩ := e3.split
    have hmN : m < s.marks.length := h1.end_lt (fun a ha => (hW.sound a ha).2.1) hW.here.1
    have hl := (hT.least.least m hmN r ⟨e, e1, e2, h2⟩).1
    simp only [List.length_append] at hr
    have := (h m (by omega)).2 ⟨h1, by omega⟩
    rw [hno m (by omega)] at this
    cases this
theorem AtN.ends {n : NetL} {S E : List Int} {s : SpaceL} {t : TalkL} {most : Int} {ws : List Int} {q : SetL} {b : Bool} (h : AtN n s t most ws q) (hW : Whole n S s) (hN : s.marks.length ≤ 300) (hl : (ws.length : Int) ≤ most) (hT : TalkOk n s E t) (he : endsT t q b) : b = true ↔ ToEnd n s E 0 ws := by
  have hsz := hT.size
  unfold endsT at he
  rw [he]
  constructor
  · rintro ⟨m, h1, h2, h3⟩
    obtain ⟨e, q1, q2, q3⟩ := (hT.least.zero (m := m) (by omega)).1 h3
    have := ((h m (by omega)).1 h2).1.append q3
    rw [List.append_nil] at this
    exact ⟨e, q1, q2, this⟩
  · rintro ⟨e, q1, q2, q3⟩
    have hz := (hT.least.zero q1).2 ⟨e, q1, q2, Way.here _⟩
    exact ⟨e, by omega, (h e (by omega)).2 ⟨q3, by omega⟩, hz⟩

/-- A level: all beginnings of k letters, in their order. -/
structure Level (n : NetL) (s : SpaceL) (E : List Int) (t : TalkL) (most : Int) (k : Nat) (L : List (List Int × SetL)) : Prop where
  up : (L.map (·.1)).Pairwise SLex
  mem : ∀ ws, ws ∈ L.map (·.1) ↔ ws.length = k ∧ BeginI n s E most ws
  at_ : ∀ x ∈ L, AtN n s t most x.1 x.2
/-- The letters of a word. -/
theorem BeginI.letters {n : NetL} {S E : List Int} {s : SpaceL} {most : Int} {ws : List Int} {l : Int} (hW : Whole n S s) (hok : netOk n = true) (h : BeginI n s E most (ws ++ [l])) : BeginI n s E most ws ∧ 1 ≤ l ∧ l ≤ 26 := by
  obtain ⟨r, ⟨e, e1, e2, e3⟩, hr⟩ := h
  refine ⟨⟨l :: r, ⟨e, e1, e2, by simpa using e3⟩, by simpa using hr⟩, ?_⟩
  obtain ⟨m, h1, h2⟩ := e3.split
  obtain ⟨a, ha, _, h4, h5, _⟩ := Way.last.1 h1
  have := lab_ok hok _ (hW.sound a ha).2.2.1
  omega

/-- The beginnings with one letter more: of the first i of L all, of the next one those with a letter below c. -/
structure NextL (n : NetL) (s : SpaceL) (E : List Int) (t : TalkL) (most : Int) (k : Nat) (L : List (List Int × SetL)) (i c : Nat) (M : List (List Int × SetL)) : Prop where
  up : (M.map (·.1)).Pairwise SLex
  mem : ∀ ws, ws ∈ M.map (·.1) ↔ ∃ (j : Nat) (l : Int), (∃ h : j < L.length, ws = L[j].1 ++ [l]) ∧ 1 ≤ l ∧ l ≤ 26 ∧ (j < i ∨ j = i ∧ l < c) ∧ BeginI n s E most ws
  at_ : ∀ x ∈ M, AtN n s t most x.1 x.2
  len : M.length ≤ 26 * i + (c - 1)
theorem NextL.start {n : NetL} {s : SpaceL} {E : List Int} {t : TalkL} {most : Int} {k : Nat} {L : List (List Int × SetL)} : NextL n s E t most k L 0 1 [] := by
  refine ⟨List.Pairwise.nil, fun ws => ⟨fun h => by simp at h, ?_⟩, by simp, by simp⟩
  rintro ⟨j, l, _, h1, h2, h3, _⟩
  omega
theorem NextL.row {n : NetL} {s : SpaceL} {E : List Int} {t : TalkL} {most : Int} {k i : Nat} {L M : List (List Int × SetL)} (h : NextL n s E t most k L i 27 M) : NextL n s E t most k L (i + 1) 1 M := by
  refine ⟨h.up, fun ws => ?_, h.at_, by have := h.len; omega⟩
  rw [h.mem]
  constructor
  · rintro ⟨j, l, q1, q2, q3, q4, q5⟩; exact ⟨j, l, q1, q2, q3, by omega, q5⟩
  · rintro ⟨j, l, q1, q2, q3, q4, q5⟩; exact ⟨j, l, q1, q2, q3, by omega, q5⟩
theorem NextL.skip {n : NetL} {s : SpaceL} {E : List Int} {t : TalkL} {most : Int} {k i c : Nat} {L M : List (List Int × SetL)} (h : NextL n s E t most k L i c M) (hi : i < L.length) (hc : 1 ≤ c) (hno : ¬ BeginI n s E most (L[i].1 ++ [(c : Int)])) : NextL n s E t most k L i (c + 1) M := by
  refine ⟨h.up, fun ws => ?_, h.at_, by have := h.len; omega⟩
  rw [h.mem]
  constructor
  · rintro ⟨j, l, q1, q2, q3, q4, q5⟩; exact ⟨j, l, q1, q2, q3, by omega, q5⟩
  · rintro ⟨j, l, ⟨hj, e⟩, q2, q3, q4, q5⟩
    by_cases e2 : j = i ∧ l = c
    · obtain ⟨rfl, rfl⟩ := e2
      rw [e] at q5
      exact absurd q5 hno
    · exact ⟨j, l, ⟨hj, e⟩, q2, q3, by omega, q5⟩
theorem NextL.add {n : NetL} {s : SpaceL} {E : List Int} {t : TalkL} {most : Int} {k i c : Nat} {L M : List (List Int × SetL)} (h : NextL n s E t most k L i c M) (hL : Level n s E t most k L) (hi : i < L.length) (hc : 1 ≤ c) (hc2 : c ≤ 26) (hb : BeginI n s E most (L[i].1 ++ [(c : Int)])) {q : SetL} (hq : AtN n s t most (L[i].1 ++ [(c : Int)]) q) :
    NextL n s E t most k L i (c + 1) (M ++ [(L[i].1 ++ [(c : Int)], q)]) := by
  have hlen : ∀ j (hj : j < L.length), L[j].1.length = k := fun j hj => ((hL.mem _).1 (List.mem_map_of_mem (List.getElem_mem hj))).1
  have hlt : ∀ j (hj : j < L.length), j < i → LexI L[j].1 L[i].1 := fun j hj hji => by
    have := (List.pairwise_iff_getElem.1 hL.up) j i (by simpa using hj) (by simpa using hi) hji
    simp only [List.getElem_map] at this
    rcases this with q | ⟨_, q⟩
    · rw [hlen j hj, hlen i hi] at q; omega
    · exact q
  refine ⟨?_, fun ws => ?_, fun x hx => ?_, by have := h.len; simp; omega⟩
  · rw [List.map_append, List.pairwise_append]
    refine ⟨h.up, by simp, fun a ha b hb' => ?_⟩
    simp only [List.map_cons, List.map_nil, List.mem_singleton] at hb'
    subst hb'
    obtain ⟨j, l, ⟨hj, e⟩, q2, q3, q4, q5⟩ := (h.mem a).1 ha
    subst e
    refine .inr ⟨by simp [hlen j hj, hlen i hi], ?_⟩
    rcases q4 with q4 | ⟨rfl, q4⟩
    · exact (hlt j hj q4).snoc
    · exact LexI.last q4 _
  · rw [List.map_append, List.mem_append, h.mem]
    simp only [List.map_cons, List.map_nil, List.mem_singleton]
    constructor
    · rintro (⟨j, l, q1, q2, q3, q4, q5⟩ | rfl)
      · exact ⟨j, l, q1, q2, q3, by omega, q5⟩
      · exact ⟨i, (c : Int), ⟨hi, rfl⟩, by omega, by omega, by omega, hb⟩
    · rintro ⟨j, l, ⟨hj, e⟩, q2, q3, q4, q5⟩
      by_cases e2 : j = i ∧ l = c
      · obtain ⟨rfl, rfl⟩ := e2; exact .inr e
      · exact .inl ⟨j, l, ⟨hj, e⟩, q2, q3, by omega, q5⟩
  · rcases List.mem_append.1 hx with hx | hx
    · exact h.at_ x hx
    · rw [List.mem_singleton.1 hx]; exact hq
theorem NextL.done {n : NetL} {S E : List Int} {s : SpaceL} {t : TalkL} {most : Int} {k : Nat} {L M : List (List Int × SetL)} (h : NextL n s E t most k L L.length 1 M) (hL : Level n s E t most k L) (hW : Whole n S s) (hok : netOk n = true) : Level n s E t most (k + 1) M := by
  refine ⟨h.up, fun ws => ?_, h.at_⟩
  rw [h.mem]
  constructor
  · rintro ⟨j, l, ⟨hj, rfl⟩, q2, q3, q4, q5⟩
    have := ((hL.mem _).1 (List.mem_map_of_mem (List.getElem_mem hj))).1
    exact ⟨by simp [this], q5⟩
  · rintro ⟨h1, h2⟩
    obtain ⟨u, l, rfl⟩ : ∃ u l, ws = u ++ [l] := by
      rcases List.eq_nil_or_concat ws with e | ⟨u, l, e⟩
      · rw [e] at h1; simp at h1
      · exact ⟨u, l, by rw [e]; simp⟩
    obtain ⟨q1, q2, q3⟩ := h2.letters hW hok
    have hu : u ∈ L.map (·.1) := (hL.mem u).2 ⟨by simpa using h1, q1⟩
    obtain ⟨x, hx, rfl⟩ := List.mem_map.1 hu
    obtain ⟨j, hj, rfl⟩ := List.getElem_of_mem hx
    exact ⟨j, l, ⟨hj, rfl⟩, q2, q3, .inl hj, h2⟩

end Go.Proofs.YteoofibhpifmlaaDoor
