/- Where one is behind the beginning of a word, plainly. -/
import Derived.Test.YteoofibhpifmlaaDoorTongHeard
import Derived.Test.YteoofibhpifmlaaDoorTongBehind
namespace Go.Proofs.YteoofibhpifmlaaDoor
set_option linter.unusedVariables false
set_option maxRecDepth 4000

/-- These are the marks where one can be behind ws. -/
def AtW (n : NetL) (s : SpaceL) (ws : List Int) (u : SetL) : Prop := ∀ j, j < 320 → (u.has j = true ↔ Way s.arcs (labT n) 0 ws j)
theorem AtW.lt {n : NetL} {S : List Int} {s : SpaceL} {ws : List Int} {u : SetL} (h : AtW n s ws u) (hW : Whole n S s) : ∀ m, m < 320 → u.has m = true → m < s.marks.length := fun m hm hh =>
  ((h m hm).1 hh).end_lt (fun a ha => (hW.sound a ha).2.1) hW.here.1
theorem AtW.behind {n : NetL} {S E : List Int} {s : SpaceL} {t : TalkL} {ws : List Int} {l : Int} {u u' : SetL} (h : AtW n s ws u) (hW : Whole n S s) (hN : s.marks.length ≤ 300) (hok : netOk n = true) (hT : TalkOk n s E t) (hb : BehindT t u l u') : AtW n s (ws ++ [l]) u' := by
  intro j hj
  rw [hb j hj, Way.last]
  constructor
  · rintro ⟨h1, h2, m, hm, hu, hn⟩
    obtain ⟨a, ha, q1, q2, q3⟩ := (hT.next m l.toNat hm (by omega) (by omega) j hj).1 hn
    refine ⟨a, ha, ?_, by rw [q2]; omega, by omega, q3⟩
    rw [q1]
    exact (h m (by have := hT.size; omega)).1 hu
  · rintro ⟨a, ha, h1, h2, h3, h4⟩
    obtain ⟨b1, b2, b3, _⟩ := hW.sound a ha
    have hl := lab_ok hok _ b3
    rw [h2] at hl
    have hsz := hT.size
    refine ⟨by omega, hl.2, a.frm, by omega, (h a.frm (by omega)).2 h1, ?_⟩
    exact (hT.next a.frm l.toNat (by omega) (by omega) (by omega) j hj).2 ⟨a, ha, rfl, by rw [h2]; omega, h4⟩
theorem AtW.none {n : NetL} {S E : List Int} {s : SpaceL} {ws r : List Int} {u : SetL} (h : AtW n s ws u) (hW : Whole n S s) (hN : s.marks.length ≤ 300) (he : emptyS u = true) : ¬ ToEnd n s E 0 (ws ++ r) := by
  rintro ⟨e, _, _, hw⟩
  obtain ⟨m, h1, h2⟩ := hw.split
  have hm : m < s.marks.length := h1.end_lt (fun a ha => (hW.sound a ha).2.1) hW.here.1
  have := (h m (by omega)).2 h1
  rw [(emptyS_iff u).1 he m (by omega)] at this
  cases this
theorem AtW.ends {n : NetL} {S E : List Int} {s : SpaceL} {t : TalkL} {ws : List Int} {u : SetL} {b : Bool} (h : AtW n s ws u) (hW : Whole n S s) (hN : s.marks.length ≤ 300) (hT : TalkOk n s E t) (he : endsT t u b) : b = true ↔ ToEnd n s E 0 ws := by
  have hsz := hT.size
  unfold endsT at he
  rw [he]
  constructor
  · rintro ⟨m, h1, h2, h3⟩
    obtain ⟨e, q1, q2, q3⟩ := (hT.least.zero (m := m) (by omega)).1 h3
    have := ((h m (by omega)).1 h2).append q3
    rw [List.append_nil] at this
    exact ⟨e, q1, q2, this⟩
  · rintro ⟨e, q1, q2, q3⟩
    exact ⟨e, by omega, (h e (by omega)).2 q3, (hT.least.zero q1).2 ⟨e, q1, q2, Way.here _⟩⟩
theorem TalkOk.start {n : NetL} {E : List Int} {s : SpaceL} {t : TalkL} (hT : TalkOk n s E t) : AtW n s [] t.bg := hT.bg

/-- Which error is told first. -/
def TongErr (n : NetL) (i o d : Int) : Prop := (¬ d = 0 ∧ Judged n i o d) ∨ (ShapeOk n i o ∧ (graphL n (startL n.places i) 300).2 = d)
theorem TongErr.unique {n : NetL} {i o d e : Int} (h : TongErr n i o d) (k : TongErr n i o e) : d = e := by
  rcases h with ⟨h1, h2⟩ | ⟨h1, h2⟩ <;> rcases k with ⟨k1, k2⟩ | ⟨k1, k2⟩
  · exact h2.unique k2
  · exact absurd k1 (h2.not_zero h1)
  · exact absurd h1 (k2.not_zero k1)
  · rw [← h2, ← k2]
/-- Is it a word of the net? -/
def WordI (n : NetL) (i o : Int) (ws : List Int) : Prop := WordN n (startL n.places i) (startL n.places o) ws
structure HasAns (n : NetL) (i o : Int) (ws : List Int) (b : Bool) (d : Int) : Prop where
  err : TongErr n i o d
  bad : ¬ d = 0 → b = false
  ok : d = 0 → (b = true ↔ WordI n i o ws)
theorem HasAns.unique {n : NetL} {i o : Int} {ws : List Int} {b c : Bool} {d e : Int} (h : HasAns n i o ws b d) (k : HasAns n i o ws c e) : b = c ∧ d = e := by
  obtain rfl := h.err.unique k.err
  refine ⟨?_, rfl⟩
  by_cases hd : d = 0
  · rw [Bool.eq_iff_iff, h.ok hd, k.ok hd]
  · rw [h.bad hd, k.bad hd]
structure LeastAns (n : NetL) (i o : Int) (k d : Int) : Prop where
  ex : ∃ d0, TongErr n i o d0 ∧ (¬ d0 = 0 → k = 0 ∧ d = d0) ∧ (d0 = 0 → (d = 3 ∧ k = 0 ∧ ∀ ws, ¬ WordI n i o ws) ∨ (d = 0 ∧ ∃ ws, WordI n i o ws ∧ (ws.length : Int) = k ∧ ∀ ws', WordI n i o ws' → k ≤ ws'.length))
theorem LeastAns.unique {n : NetL} {i o k d k' d' : Int} (h : LeastAns n i o k d) (h' : LeastAns n i o k' d') : k = k' ∧ d = d' := by
  obtain ⟨d0, h1, h2, h3⟩ := h.ex
  obtain ⟨d0', h1', h2', h3'⟩ := h'.ex
  obtain rfl := h1.unique h1'
  by_cases hd : d0 = 0
  · rcases h3 hd with ⟨q1, q2, q3⟩ | ⟨q1, ws, q2, q3, q4⟩ <;> rcases h3' hd with ⟨r1, r2, r3⟩ | ⟨r1, ws', r2, r3, r4⟩
    · exact ⟨by omega, by omega⟩
    · exact absurd r2 (q3 _)
    · exact absurd q2 (r3 _)
    · have := q4 _ r2; have := r4 _ q2; exact ⟨by omega, by omega⟩
  · obtain ⟨q1, q2⟩ := h2 hd
    obtain ⟨r1, r2⟩ := h2' hd
    exact ⟨by omega, by omega⟩

theorem heard_err {w' : World} {n : NetL} {i o : Int} {p : Option Addr} {d : Int} (h : Heard w' n i o p d) : TongErr n i o d := by
  rcases h with ⟨h1, _, h2 | ⟨h2, h3⟩⟩ | ⟨h1, h2, s, h3, _⟩
  · exact .inl ⟨h1, h2⟩
  · exact .inr ⟨h2, h3⟩
  · exact .inr ⟨h2, by rw [h3, h1]⟩

end Go.Proofs.YteoofibhpifmlaaDoor
