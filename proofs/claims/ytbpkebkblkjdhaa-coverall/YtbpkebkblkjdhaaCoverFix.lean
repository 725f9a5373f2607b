/- Plain facts: what is raised again and again comes to one mark, in whatever order; and those that a knot comes of. -/
import Derived.Test.YtbpkebkblkjdhaaCoverBase
namespace Go.Proofs.Ytbpkebkblkjdhaa
set_option linter.unusedVariables false

/-- Nobody raises it any more. -/
def Still (mine : List (List Int)) (z : List Int) : Prop := ∀ y ∈ mine, raise1 y z = z

/-- It was come to by raising. -/
def Comes5 (mine : List (List Int)) (x z : List Int) : Prop := ∀ P : List Int → Prop, P x → (∀ y z, y ∈ mine → P z → P (raise1 y z)) → P z
theorem Comes5.here {mine : List (List Int)} {x : List Int} : Comes5 mine x x := fun _ h _ => h
theorem Comes5.step {mine : List (List Int)} {x : List Int} (y z : List Int) (hy : y ∈ mine) (h : Comes5 mine x z) : Comes5 mine x (raise1 y z) := fun P h0 h1 => h1 y z hy (h P h0 h1)
theorem Comes5.ind {mine : List (List Int)} {x : List Int} {motive : (z : List Int) → Comes5 mine x z → Prop} (here : motive x Comes5.here) (step : ∀ (y z : List Int) (hy : y ∈ mine) (h : Comes5 mine x z), motive z h → motive (raise1 y z) (Comes5.step y z hy h)) {z : List Int} (h : Comes5 mine x z) : motive z h := by
  obtain ⟨h', q⟩ := h (fun z => ∃ h : Comes5 mine x z, motive z h) ⟨Comes5.here, here⟩ (fun y z hy ⟨hz, qz⟩ => ⟨Comes5.step y z hy hz, step y z hy hz qz⟩)
  exact q

theorem Comes5.raised {mine : List (List Int)} {x z : List Int} (h : Comes5 mine x z) : Raised x z := by
  induction h using Comes5.ind with
  | here => exact Raised.refl x
  | step y z _ _ ih => exact ih.trans (raise1_raised y z)

theorem moreL_many {b : Int} : moreL (-1) b = true ↔ b ≠ -1 := by rw [moreL_yes]; simp

theorem belowL_raised {y u z : List Int} (h : Raised u z) (hb : belowL y u = true) : belowL y z = true := by
  rw [belowL_iff] at hb ⊢
  intro p hp
  have := hb p (by rw [← h.1]; exact hp)
  rcases h.2 p with e | e
  · rw [e, moreL_no]; exact .inl rfl
  · rw [e]; exact this

theorem raise1_nth {y x : List Int} (hb : belowL y x = true) (p : Nat) (hp : p < x.length) : nth (raise1 y x) p = raiseAt y x p := by
  rw [raise1, if_pos hb, mapTo_nth _ _ _ hp]

theorem raise1_under {y u z : List Int} (h : Raised u z) (hz : raise1 y z = z) : Raised (raise1 y u) z := by
  by_cases hb : belowL y u = true
  · have hb' := belowL_raised h hb
    refine ⟨by rw [h.1, (raise1_raised y u).1], fun p => ?_⟩
    by_cases hp : p < u.length
    · rw [raise1_nth hb p hp, raiseAt]
      have hzp := raise1_nth hb' p (by rw [h.1]; exact hp)
      rw [hz, raiseAt] at hzp
      by_cases hm : moreL (nth u p) (nth y p) = true
      · rcases h.2 p with e | e
        · exact .inl e
        · rw [e] at hzp
          rw [if_pos hm] at hzp ⊢
          exact .inl (e.trans hzp)
      · rw [if_neg hm]; exact h.2 p
    · exact .inr (by rw [nth_past z p (by rw [h.1]; omega), nth_past _ p (by rw [(raise1_raised y u).1]; omega)])
  · rw [raise1, if_neg hb]; exact h

theorem Comes5.under {mine : List (List Int)} {x z z' : List Int} (h : Comes5 mine x z) (hr : Raised x z') (hs : Still mine z') : Raised z z' := by
  induction h using Comes5.ind with
  | here => exact hr
  | step y z hy _ ih => exact raise1_under ih (hs y hy)

theorem Raised.antisymm {x z : List Int} (h : Raised x z) (k : Raised z x) : x = z := eq_of_at k.1 fun p => by
  rcases h.2 p with e | e
  · rcases k.2 p with e' | e'
    · rw [e, e']
    · exact e'
  · exact e.symm

/-- ONE MARK, in whatever order. -/
theorem still_unique {mine mine' : List (List Int)} {x z z' : List Int} (hm : ∀ y, y ∈ mine ↔ y ∈ mine') (h : Comes5 mine x z) (hs : Still mine z) (h' : Comes5 mine' x z') (hs' : Still mine' z') : z = z' :=
  Raised.antisymm (h.under h'.raised fun y hy => hs' y ((hm y).1 hy)) (h'.under h.raised fun y hy => hs y ((hm y).2 hy))

theorem comes_all {mine : List (List Int)} {x : List Int} : ∀ (l : List (List Int)) {z : List Int}, (∀ y ∈ l, y ∈ mine) → Comes5 mine x z → Comes5 mine x (raiseAll l z)
  | [], z, _, h => h
  | y :: l, z, hl, h => comes_all l (fun q hq => hl q (by simp [hq])) (.step y z (hl y (by simp)) h)
theorem comes_N (mine : List (List Int)) (x : List Int) : ∀ r, Comes5 mine x (raiseN mine x r)
  | 0 => .here
  | r + 1 => comes_all mine (fun _ h => h) (comes_N mine x r)

/-- How many have not Many. -/
def fewF (z : List Int) : Nat := z.countP (fun q => q != -1)
theorem fewF_le (z : List Int) : fewF z ≤ z.length := List.countP_le_length
theorem raised_few {x z : List Int} (h : Raised x z) : fewF z ≤ fewF x ∧ (fewF z = fewF x → z = x) := by
  obtain ⟨hl, hp⟩ := h
  induction x generalizing z with
  | nil =>
    have : z = [] := List.length_eq_zero_iff.1 hl
    subst this
    exact ⟨Nat.le_refl _, fun _ => rfl⟩
  | cons a x ih =>
    cases z with
    | nil => cases hl
    | cons b z =>
      have h0 := hp 0
      obtain ⟨i1, i2⟩ := @ih z (by simpa using hl) (fun p => by simpa [nth] using hp (p + 1))
      simp only [nth, List.getD_cons_zero] at h0
      unfold fewF at i1 i2 ⊢
      rw [List.countP_cons, List.countP_cons]
      by_cases ha : a = -1
      · subst ha
        have hb : b = -1 := by rcases h0 with e | e <;> exact e
        subst hb
        simp only [bne_self_eq_false, Bool.false_eq_true, if_false, Nat.add_zero]
        exact ⟨i1, fun e => by rw [i2 e]⟩
      · rcases h0 with e | e
        · subst e
          have : (a != -1) = true := by simpa using ha
          rw [this]
          simp only [bne_self_eq_false, Bool.false_eq_true, if_false, if_true, Nat.add_zero]
          exact ⟨by omega, fun e => by omega⟩
        · subst e
          exact ⟨by omega, fun e => by rw [i2 (by omega)]⟩

/-- If all together leave it, each does. -/
theorem all_still : ∀ {l : List (List Int)} {z : List Int}, raiseAll l z = z → Still l z
  | [], z, _ => fun y hy => absurd hy (by simp)
  | y :: l, z, h => by
    have h1 : raiseAll l (raise1 y z) = z := h
    have hr1 := raise1_raised y z
    have hr2 := raiseAll_raised l (raise1 y z)
    rw [h1] at hr2
    have e := hr1.antisymm hr2
    rw [← e] at h1
    intro q hq
    rcases List.mem_cons.1 hq with rfl | hq
    · exact e.symm
    · exact all_still h1 q hq

theorem raiseN_still_or (mine : List (List Int)) (x : List Int) : ∀ r, raiseAll mine (raiseN mine x r) = raiseN mine x r ∨ fewF (raiseN mine x (r + 1)) + (r + 1) ≤ fewF x
  | 0 => by
    obtain ⟨h1, h2⟩ := raised_few (raiseAll_raised mine x)
    by_cases e : fewF (raiseAll mine x) = fewF x
    · exact .inl (h2 e)
    · exact .inr (by show fewF (raiseAll mine x) + _ ≤ _; omega)
  | r + 1 => by
    rcases raiseN_still_or mine x r with h | h
    · left
      show raiseAll mine (raiseAll mine (raiseN mine x r)) = raiseAll mine (raiseN mine x r)
      rw [h, h]
    · obtain ⟨h1, h2⟩ := raised_few (raiseAll_raised mine (raiseN mine x (r + 1)))
      by_cases e : fewF (raiseAll mine (raiseN mine x (r + 1))) = fewF (raiseN mine x (r + 1))
      · exact .inl (h2 e)
      · exact .inr (by show fewF (raiseAll mine (raiseN mine x (r + 1))) + _ ≤ _; omega)

theorem raiseN_still (mine : List (List Int)) (x : List Int) {r : Nat} (hr : x.length ≤ r) : Still mine (raiseN mine x r) := by
  rcases raiseN_still_or mine x r with h | h
  · exact all_still h
  · have := fewF_le x; omega

/-- Whoever raises, in whatever order, until nobody does, comes to what the document asks. -/
theorem raiseN_is {mine mine' : List (List Int)} {x z : List Int} {r : Nat} (hr : x.length ≤ r) (hm : ∀ y, y ∈ mine ↔ y ∈ mine') (h : Comes5 mine' x z) (hs : Still mine' z) : raiseN mine x r = z :=
  still_unique hm (comes_N mine x r) (raiseN_still mine x hr) h hs

/-- Raised, or as it was. -/
theorem raise1_same {y z : List Int} (h : fewF (raise1 y z) = fewF z) : raise1 y z = z := (raised_few (raise1_raised y z)).2 h

/-- Each knot stands behind the one that it comes of. -/
structure Linked (s : List KnotX) : Prop where
  up : ∀ j, j < s.length → -1 ≤ (knotAt s j).up ∧ (knotAt s j).up < j
  line : ∀ j, j < s.length → (knotAt s j).line = if (knotAt s j).up < 0 then [] else (knotAt s (knotAt s j).up.toNat).mine

/-- The marks of a knot, of the one that it comes of, and so on. -/
def upMarks (s : List KnotX) (k : Int) : List (List Int) := if k < 0 then [] else (knotAt s k.toNat).mine.reverse

theorem upMarks_line {s : List KnotX} (h : Linked s) {j : Nat} (hj : j < s.length) : upMarks s (knotAt s j).up = (knotAt s j).line.reverse := by
  rw [upMarks, h.line j hj]
  split <;> rfl
theorem upMarks_next {s : List KnotX} (h : Linked s) {j : Nat} (hj : j < s.length) : upMarks s j = (knotAt s j).mark :: upMarks s (knotAt s j).up := by
  rw [upMarks_line h hj, upMarks, if_neg (by omega), Int.toNat_natCast, KnotX.mine, List.reverse_append]
  rfl

theorem Grown.linked {n : NetL} {m : List Int} {most k t : Nat} {s : List KnotX} (h : Grown n m most k t s) : Linked s where
  up := by
    intro j hj
    by_cases h0 : j = 0
    · subst h0; rw [h.first]; exact ⟨Int.le_refl _, by show (-1 : Int) < _; omega⟩
    · obtain ⟨u, t', hu, _, _, e⟩ := h.child j (by omega) hj
      rw [e]
      exact ⟨by show (-1 : Int) ≤ u; omega, by show (u : Int) < _; omega⟩
  line := by
    intro j hj
    by_cases h0 : j = 0
    · subst h0; rw [h.first]; rfl
    · obtain ⟨u, t', hu, _, _, e⟩ := h.child j (by omega) hj
      rw [e]
      show _ = if (u : Int) < 0 then _ else (knotAt s (u : Int).toNat).mine
      rw [if_neg (by omega), Int.toNat_natCast]
      rfl

/-- How many are at places: all as many as the net has places, so many that sums stay small. -/
structure Sized (P : Nat) (s : List KnotX) : Prop where
  len : ∀ j, j < s.length → (knotAt s j).mark.length = P
  mine : ∀ j, j < s.length → ∀ y ∈ (knotAt s j).mine, y.length = P

theorem raiseN_length (mine : List (List Int)) (x : List Int) (r : Nat) : (raiseN mine x r).length = x.length := (raiseN_raised mine x r).1

theorem Grown.sized {n : NetL} {m : List Int} {most k t : Nat} {s : List KnotX} (h : Grown n m most k t s) : Sized m.length s := by
  have key : ∀ j, j < s.length → (knotAt s j).mark.length = m.length ∧ ∀ y ∈ (knotAt s j).mine, y.length = m.length := by
    intro j
    induction j using Nat.strongRecOn with
    | _ j ih =>
      intro hj
      by_cases h0 : j = 0
      · subst h0
        rw [h.first]
        refine ⟨rfl, fun y hy => ?_⟩
        simp [KnotX.mine, rootK] at hy
        rw [hy]
      · obtain ⟨u, t', hu, _, _, e⟩ := h.child j (by omega) hj
        obtain ⟨i1, i2⟩ := ih u hu (by omega)
        have hl : (knotAt s j).mark.length = m.length := by
          rw [e]
          show (raiseN _ _ _).length = _
          rw [raiseN_length, omFire, mapTo_length, i1]
        refine ⟨hl, fun y hy => ?_⟩
        rw [KnotX.mine, List.mem_append] at hy
        rcases hy with hy | hy
        · rw [e] at hy; exact i2 y hy
        · simp at hy; rw [hy]; exact hl
  exact ⟨fun j hj => (key j hj).1, fun j hj => (key j hj).2⟩

theorem comes_sub {mine mine' : List (List Int)} {x z : List Int} (hm : ∀ y ∈ mine, y ∈ mine') (h : Comes5 mine x z) : Comes5 mine' x z := by
  induction h using Comes5.ind with
  | here => exact .here
  | step y z hy _ ih => exact .step y z (hm y hy) ih

end Go.Proofs.Ytbpkebkblkjdhaa
