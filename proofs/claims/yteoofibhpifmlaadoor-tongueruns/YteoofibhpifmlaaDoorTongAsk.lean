/- Plain: what the laws TongueShort and TongueRuns ask of Has, Least and Words. -/
import Derived.Test.YteoofibhpifmlaaDoorTongWords
namespace Go.Proofs.YteoofibhpifmlaaDoor
set_option linter.unusedVariables false
set_option maxRecDepth 4000

theorem TongErr.not3 {n : NetL} {i o : Int} (h : TongErr n i o 3) : False := by
  rcases h with ⟨_, h⟩ | ⟨_, h⟩
  · cases hn : netOk n with
    | false => have := h.bad hn; omega
    | true =>
      by_cases hs : ShapeOk n i o
      · have := h.right hs; omega
      · have := h.form hn hs; omega
  · unfold graphL at h
    split at h
    · split at h <;> simp at h
    · simp at h

theorem least_three {n : NetL} {i o k : Int} (h : LeastAns n i o k 3) : TongErr n i o 0 ∧ ∀ ws, ¬ WordI n i o ws := by
  obtain ⟨d0, h1, h2, h3⟩ := h.ex
  by_cases hd : d0 = 0
  · subst hd
    rcases h3 rfl with ⟨_, _, q⟩ | ⟨q, _⟩
    · exact ⟨h1, q⟩
    · exact absurd q (by omega)
  · obtain ⟨_, q⟩ := h2 hd
    subst q
    exact h1.not3.elim

/-- Where there is no word. -/
theorem ask_none {n : NetL} {i o k most : Int} {l : List (List Int)} {ws : List Int} {b : Bool} {d2 d3 : Int} (hL : LeastAns n i o k 3) (hW : WordsAns n i o most l d2) (hH : HasAns n i o ws b d3) : d3 = 0 ∧ b = false ∧ (d2 = 0 → l.length = 0) := by
  obtain ⟨h0, hn⟩ := least_three hL
  obtain rfl := hH.err.unique h0
  refine ⟨rfl, ?_, fun hd => ?_⟩
  · cases hb : b with
    | false => rfl
    | true => exact absurd ((hH.ok rfl).1 hb) (hn ws)
  · subst hd
    obtain ⟨e, w1, w2, w3⟩ := hW.ex
    obtain rfl := w1.unique h0
    by_cases hm : 0 ≤ most ∧ most ≤ 8
    · rcases (w3 rfl).2 hm with ⟨_, rfl, _⟩ | ⟨_, _, _, q⟩
      · rfl
      · cases l with
        | nil => rfl
        | cons a t => exact absurd ((q a).1 (by simp)).1 (hn a)
    · exact absurd ((w3 rfl).1 hm).2 (by omega)

/-- Where all three tell of the same fault. -/
theorem ask_fault {n : NetL} {i o k d : Int} {ws : List Int} {b : Bool} {d3 : Int} (hL : LeastAns n i o k d) (hd : ¬ d = 0) (h3 : ¬ d = 3) (hH : HasAns n i o ws b d3) : d3 = d := by
  obtain ⟨d0, h1, h2, hq⟩ := hL.ex
  by_cases hd0 : d0 = 0
  · rcases hq hd0 with ⟨q, _⟩ | ⟨q, _⟩
    · exact absurd q h3
    · exact absurd q hd
  · obtain ⟨_, q⟩ := h2 hd0
    subst q
    exact hH.err.unique h1

/-- Where there is a word. -/
theorem ask_some {n : NetL} {i o k most : Int} {l : List (List Int)} {ws : List Int} {b : Bool} {d2 d3 : Int} (hL : LeastAns n i o k 0) (hW : WordsAns n i o most l d2) (hH : HasAns n i o ws b d3) :
    (b = true → k ≤ (ws.length : Int)) ∧ (d2 = 0 → (0 < l.length ↔ k ≤ most) ∧ (l.length ≠ 0 → ((l.getD 0 []).length : Int) = k)) := by
  obtain ⟨d0, h1, h2, hq⟩ := hL.ex
  have hd0 : d0 = 0 := by
    apply Classical.byContradiction
    intro h
    exact h (h2 h).2.symm
  subst hd0
  rcases hq rfl with ⟨q, _⟩ | ⟨_, x, hx, hlen, hmin⟩
  · exact absurd q (by omega)
  · obtain rfl := hH.err.unique h1
    refine ⟨fun hb => hmin _ ((hH.ok rfl).1 hb), fun hd => ?_⟩
    subst hd
    obtain ⟨e, w1, w2, w3⟩ := hW.ex
    obtain rfl := w1.unique h1
    by_cases hm : 0 ≤ most ∧ most ≤ 8
    · rcases (w3 rfl).2 hm with ⟨_, _, q⟩ | ⟨_, _, hP, hq⟩
      · exact absurd q (by omega)
      · have hmem : k ≤ most → x ∈ l := fun h => (hq x).2 ⟨hx, by omega⟩
        cases l with
        | nil =>
          refine ⟨⟨fun h => by simp at h, fun h => ?_⟩, fun h => absurd rfl h⟩
          exact absurd (hmem h) (by simp)
        | cons a t =>
          obtain ⟨ha, hal⟩ := (hq a).1 (by simp)
          have hka := hmin a ha
          refine ⟨⟨fun _ => by omega, fun _ => by simp⟩, fun _ => ?_⟩
          show (a.length : Int) = k
          rcases List.mem_cons.1 (hmem (by omega)) with e | ht
          · rw [← e]; exact hlen
          · have := ((List.pairwise_cons.1 hP).1 x ht).len
            omega
    · exact absurd ((w3 rfl).1 hm).2 (by omega)

/-- A run's word, as the law gathers it. -/
def putT (n : NetL) (t : Int) : List Int := if 0 ≤ t ∧ t < (n.trans.length : Int) ∧ 0 < labT n t.toNat then [labT n t.toNat] else []
def wordTo (n : NetL) : List Int → List Int
  | [] => []
  | t :: ts => putT n t ++ wordTo n ts
theorem wordTo_append (n : NetL) : ∀ (a b : List Int), wordTo n (a ++ b) = wordTo n a ++ wordTo n b
  | [], b => rfl
  | t :: a, b => by show putT n t ++ wordTo n (a ++ b) = _; rw [wordTo_append n a b, ← List.append_assoc]; rfl
theorem wordTo_one (n : NetL) (t : Int) : wordTo n [t] = putT n t := by show putT n t ++ [] = _; rw [List.append_nil]
theorem wordTo_succ (n : NetL) (l : List Int) {k : Nat} (hk : k < l.length) : wordTo n (l.take (k + 1)) = wordTo n (l.take k) ++ putT n (nth l k) := by
  rw [List.take_succ_eq_append_getElem hk, wordTo_append, wordTo_one]
  have e : l[k] = nth l k := by simp [nth, List.getD, hk]
  rw [e]
theorem putT_len (n : NetL) (t : Int) : (putT n t).length ≤ 1 := by unfold putT; split <;> simp
theorem wordTo_len (n : NetL) : ∀ (l : List Int), (wordTo n l).length ≤ l.length
  | [] => Nat.le_refl _
  | t :: ts => by have := wordTo_len n ts; have := putT_len n t; show (putT n t ++ wordTo n ts).length ≤ _; simp; omega
theorem fire_in {n : NetL} {m : List Int} {t : Int} (h : (fireL n m t).2 = 0) : 0 ≤ t ∧ t < (n.trans.length : Int) := by
  unfold fireL at h
  split at h
  · split at h
    · rename_i q
      simp only [Bool.and_eq_true, decide_eq_true_eq] at q
      exact q.1
    · simp at h
  · simp at h
theorem seen_word {n : NetL} (hok : netOk n = true) : ∀ {seq m E : List Int}, runL n m seq = (E, 0) → seenL n seq = wordTo n seq
  | [], m, E, h => rfl
  | t :: ts, m, E, h => by
    rw [runL_cons] at h
    split at h
    · split at h
      · rename_i q
        obtain ⟨h0, h1⟩ := fire_in (by simpa using q)
        have ih := seen_word hok h
        have hl := (lab_ok hok t.toNat (by omega)).1
        show (if labT n t.toNat = 0 then seenL n ts else labT n t.toNat :: seenL n ts) = putT n t ++ wordTo n ts
        rw [ih]
        unfold putT
        by_cases hz : labT n t.toNat = 0
        · rw [if_pos hz, if_neg (by omega)]; rfl
        · rw [if_neg hz, if_pos ⟨h0, h1, by omega⟩]; rfl
      · rename_i q
        simp only [Prod.mk.injEq] at h
        rw [h.2] at q
        simp at q
    · simp at h
/-- What the law TongueRuns asks. -/
theorem ask_runs {n : NetL} {i o : Int} {seq : List Int} {b : Bool} {d : Int} (hH : HasAns n i o (wordTo n seq) b d) (hd : d = 0) (hr : runL n (startL n.places i) seq = (startL n.places o, 0)) : b = true := by
  have hok : netOk n = true := by
    rcases hH.err with ⟨h, _⟩ | ⟨h, _⟩
    · exact absurd hd h
    · exact h.ok
  exact (hH.ok hd).2 ⟨seq, hr, seen_word hok hr⟩

end Go.Proofs.YteoofibhpifmlaaDoor
