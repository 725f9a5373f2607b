/- Plain words for what all marks of a net stay below. -/
import Derived.Test.YteohpkicbkhpjaaReaches2
namespace Go.Proofs.Yteohpkicbkhpjaa
set_option linter.unusedVariables false
set_option maxRecDepth 4000

/-- Has a more than b? -1 is Many. -/
def moreL (a b : Int) : Bool := (b != -1) && ((a == -1) || decide (b < a))
theorem moreL_no {a b : Int} : moreL a b = false ↔ b = -1 ∨ (a ≠ -1 ∧ a ≤ b) := by
  unfold moreL
  rw [Bool.and_eq_false_iff, Bool.or_eq_false_iff, bne_eq_false_iff_eq, decide_eq_false_iff_not, beq_eq_false_iff_ne]
  omega
theorem moreL_yes {a b : Int} : moreL a b = true ↔ b ≠ -1 ∧ (a = -1 ∨ b < a) := by
  unfold moreL
  rw [Bool.and_eq_true, Bool.or_eq_true, bne_iff_ne, decide_eq_true_eq, beq_iff_eq]

def belowTo (a b : List Int) (k : Nat) : Bool := (List.range k).all fun p => !moreL (nth a p) (nth b p)
/-- Nowhere more. -/
def belowL (a b : List Int) : Bool := belowTo a b b.length
theorem belowTo_succ (a b : List Int) (k : Nat) : belowTo a b (k + 1) = (belowTo a b k && !moreL (nth a k) (nth b k)) := by
  simp [belowTo, List.range_succ]
theorem belowTo_iff (a b : List Int) (k : Nat) : belowTo a b k = true ↔ ∀ p, p < k → moreL (nth a p) (nth b p) = false := by
  simp [belowTo, List.all_eq_true]
theorem belowL_iff (a b : List Int) : belowL a b = true ↔ ∀ p, p < b.length → moreL (nth a p) (nth b p) = false := belowTo_iff a b b.length
theorem belowTo_no {a b : List Int} {k : Nat} (hk : k < b.length) (h : moreL (nth a k) (nth b k) = true) : belowL a b = false := by
  cases e : belowL a b
  · rfl
  · rw [(belowL_iff a b).1 e k hk] at h; cases h

def mapTo (k : Nat) (f : Nat → Int) : List Int := (List.range k).map f
theorem mapTo_succ (k : Nat) (f : Nat → Int) : mapTo (k + 1) f = mapTo k f ++ [f k] := by simp [mapTo, List.range_succ]
theorem mapTo_length (k : Nat) (f : Nat → Int) : (mapTo k f).length = k := by simp [mapTo]
theorem mapTo_nth (k : Nat) (f : Nat → Int) (p : Nat) (h : p < k) : nth (mapTo k f) p = f p := by simp [mapTo, nth, List.getD, h]

/-- What firing comes to. -/
def omAt (t : TranL) (m : List Int) (p : Nat) : Int := if nth m p = -1 then -1 else nth m p - nth t.pre p + nth t.post p
def omFire (t : TranL) (m : List Int) : List Int := mapTo m.length (omAt t m)

/-- Those places where x has more than y have Many, if y is below x. -/
def raiseAt (y x : List Int) (p : Nat) : Int := if moreL (nth x p) (nth y p) then -1 else nth x p
def raise1 (y x : List Int) : List Int := if belowL y x then mapTo x.length (raiseAt y x) else x
def raiseAll (mine : List (List Int)) (x : List Int) : List Int := mine.foldl (fun x y => raise1 y x) x
def raiseN (mine : List (List Int)) (x : List Int) : Nat → List Int
  | 0 => x
  | r + 1 => raiseAll mine (raiseN mine x r)

/-- As it was, but where it has Many. -/
def Raised (x z : List Int) : Prop := z.length = x.length ∧ ∀ p, nth z p = -1 ∨ nth z p = nth x p
theorem Raised.refl (x : List Int) : Raised x x := ⟨rfl, fun _ => .inr rfl⟩
theorem Raised.trans {x y z : List Int} (h : Raised x y) (k : Raised y z) : Raised x z := by
  refine ⟨k.1.trans h.1, fun p => ?_⟩
  rcases k.2 p with e | e
  · exact .inl e
  · rw [e]; exact h.2 p
theorem raise1_raised (y x : List Int) : Raised x (raise1 y x) := by
  unfold raise1
  split
  · refine ⟨mapTo_length _ _, fun p => ?_⟩
    by_cases hp : p < x.length
    · rw [mapTo_nth _ _ _ hp, raiseAt]
      split
      · exact .inl rfl
      · exact .inr rfl
    · rw [nth_past _ p (by rw [mapTo_length]; omega), nth_past x p (by omega)]; exact .inr rfl
  · exact Raised.refl x
theorem raiseAll_raised (mine : List (List Int)) : ∀ x, Raised x (raiseAll mine x) := by
  induction mine with
  | nil => exact fun x => Raised.refl x
  | cons y r ih => exact fun x => (raise1_raised y x).trans (ih (raise1 y x))
theorem raiseN_raised (mine : List (List Int)) (x : List Int) : ∀ r, Raised x (raiseN mine x r)
  | 0 => Raised.refl x
  | r + 1 => (raiseN_raised mine x r).trans (raiseAll_raised mine _)
/-- Where nothing has Many, it is as it was. -/
theorem Raised.same {x z : List Int} (h : Raised x z) (hz : ∀ p, nth z p ≠ -1) : z = x := eq_of_at h.1 fun p => by
  rcases h.2 p with e | e
  · exact absurd e (hz p)
  · exact e

/-- Where nobody is below with less somewhere, nothing is changed. -/
theorem raise_still {mine : List (List Int)} {x : List Int} (h : ∀ y ∈ mine, belowL y x = true → ∀ p, p < x.length → moreL (nth x p) (nth y p) = false) (r : Nat) : raiseN mine x r = x := by
  have h1 : ∀ y ∈ mine, raise1 y x = x := by
    intro y hy
    unfold raise1
    split
    · rename_i hb
      refine eq_of_at (mapTo_length _ _) fun p => ?_
      by_cases hp : p < x.length
      · rw [mapTo_nth _ _ _ hp, raiseAt, h y hy hb p hp]; rfl
      · rw [nth_past _ p (by rw [mapTo_length]; omega), nth_past x p (by omega)]
    · rfl
  have h2 : raiseAll mine x = x := by
    clear h
    unfold raiseAll
    induction mine with
    | nil => rfl
    | cons y l ih => rw [List.foldl_cons, h1 y (by simp)]; exact ih fun z hz => h1 z (by simp [hz])
  induction r with
  | zero => rfl
  | succ r ih => rw [raiseN, ih, h2]

/-- A knot, with the marks that it comes of. -/
structure KnotX where
  up : Int
  tran : Int
  mark : List Int
  line : List (List Int)

/-- A knot as it is answered. -/
structure KnotL where
  up : Int
  tran : Int
  mark : List Int

def KnotX.knot (x : KnotX) : KnotL := ⟨x.up, x.tran, x.mark⟩
def KnotX.mine (x : KnotX) : List (List Int) := x.line ++ [x.mark]
def noKnot : KnotX := ⟨0, 0, [], []⟩
def knotAt (s : List KnotX) (k : Nat) : KnotX := s.getD k noKnot
theorem knotAt_append {s r : List KnotX} {k : Nat} (h : k < s.length) : knotAt (s ++ r) k = knotAt s k := by
  rw [knotAt, knotAt, List.getD_eq_getElem?_getD, List.getD_eq_getElem?_getD, List.getElem?_append_left h]
theorem knotAt_last (s : List KnotX) (x : KnotX) : knotAt (s ++ [x]) s.length = x := by
  rw [knotAt, List.getD_eq_getElem?_getD, List.getElem?_append_right (Nat.le_refl _)]; simp
theorem knotAt_get {s : List KnotX} {k : Nat} (h : k < s.length) : knotAt s k = s[k] := by
  rw [knotAt, List.getD_eq_getElem?_getD, List.getElem?_eq_getElem h]; rfl

/-- What comes of a knot by a transition. -/
def kid (n : NetL) (k t : Nat) (x : KnotX) : KnotX := ⟨k, t, raiseN x.mine (omFire (tranAt n.trans t) x.mark) (n.places.toNat + 1), x.mine⟩
def growT (n : NetL) (most k : Nat) (s : List KnotX) (t : Nat) : Option (List KnotX) :=
  if belowL (tranAt n.trans t).pre (knotAt s k).mark then (if most ≤ s.length then none else some (s ++ [kid n k t (knotAt s k)])) else some s
def growTo (n : NetL) (most k : Nat) (s : List KnotX) : Nat → Option (List KnotX)
  | 0 => some s
  | t + 1 => (growTo n most k s t).bind fun s' => growT n most k s' t
def seenK (x : KnotX) : Bool := x.line.contains x.mark
def rootK (m : List Int) : KnotX := ⟨-1, -1, m, []⟩
/-- The first k knots are done. -/
def treeTo (n : NetL) (m : List Int) (most : Nat) : Nat → Option (List KnotX)
  | 0 => some [rootK m]
  | k + 1 => (treeTo n m most k).bind fun s => if k < s.length then (if seenK (knotAt s k) then some s else growTo n most k s n.trans.length) else some s

def treeL (n : NetL) (m : List Int) (most : Int) : List KnotL × Int :=
  if graphOk n m most then
    match treeTo n m most.toNat most.toNat with
    | some s => (s.map KnotX.knot, 0)
    | none => ([], 4)
  else ([], 2)

/-- The most at a place. -/
def topL (p : Nat) (l : List KnotL) (x : Int) : Int := l.foldl (fun x k => if moreL (nth k.mark p) x then nth k.mark p else x) x
def limitL (n : NetL) (m : List Int) (p most : Int) : Int × Int :=
  if (treeL n m most).2 == 0 then (if decide (0 ≤ p) && decide (p < n.places) then (topL p.toNat (treeL n m most).1 0, 0) else (0, 3)) else (0, (treeL n m most).2)

/-- What holds while knots come: k knots are done, and t transitions of knot k. -/
structure Grown (n : NetL) (m : List Int) (most k t : Nat) (s : List KnotX) : Prop where
  most_le : s.length ≤ most
  pos : 0 < s.length
  first : knotAt s 0 = rootK m
  child : ∀ j, 0 < j → j < s.length → ∃ u t', u < j ∧ t' < n.trans.length ∧ belowL (tranAt n.trans t').pre (knotAt s u).mark = true ∧ knotAt s j = kid n u t' (knotAt s u)
  whole : ∀ f j, f < s.length → j < n.trans.length → (f < k ∨ f = k ∧ j < t) → seenK (knotAt s f) = true ∨ belowL (tranAt n.trans j).pre (knotAt s f).mark = false ∨ ∃ g, g < s.length ∧ knotAt s g = kid n f j (knotAt s f)

theorem Grown.start {n : NetL} {m : List Int} {most : Nat} (hm : 1 ≤ most) : Grown n m most 0 0 [rootK m] where
  most_le := hm
  pos := Nat.one_pos
  first := rfl
  child := by intro j h1 h2; simp at h2; omega
  whole := by intro f j h1 h2 h3; omega

theorem Grown.step {n : NetL} {m : List Int} {most k t : Nat} {s s' : List KnotX} (h : Grown n m most k t s) (hk : k < s.length) (ht : t < n.trans.length) (e : growT n most k s t = some s') :
    Grown n m most k (t + 1) s' ∧ s.length ≤ s'.length ∧ ∀ j, j < s.length → knotAt s' j = knotAt s j := by
  unfold growT at e
  split at e
  · rename_i hb
    split at e
    · cases e
    · rename_i hl
      injection e with e
      subst e
      have hlen : (s ++ [kid n k t (knotAt s k)]).length = s.length + 1 := by simp
      refine ⟨⟨by omega, by omega, by rw [knotAt_append h.pos]; exact h.first, ?_, ?_⟩, by omega, fun j hj => knotAt_append hj⟩
      · intro j h1 h2
        by_cases hj : j < s.length
        · obtain ⟨u, t', q1, q2, q3, q4⟩ := h.child j h1 hj
          exact ⟨u, t', q1, q2, by rw [knotAt_append (by omega)]; exact q3, by rw [knotAt_append hj, knotAt_append (by omega)]; exact q4⟩
        · have e : j = s.length := by omega
          subst e
          exact ⟨k, t, hk, ht, by rw [knotAt_append hk]; exact hb, by rw [knotAt_last, knotAt_append hk]⟩
      · intro f j h1 h2 h3
        have hf : f < s.length := by omega
        rw [knotAt_append hf]
        by_cases hn : f = k ∧ j = t
        · obtain ⟨rfl, rfl⟩ := hn
          exact .inr (.inr ⟨s.length, by omega, by rw [knotAt_last]⟩)
        · rcases h.whole f j hf h2 (by omega) with q | q | ⟨g, q1, q2⟩
          · exact .inl q
          · exact .inr (.inl q)
          · exact .inr (.inr ⟨g, by omega, by rw [knotAt_append q1]; exact q2⟩)
  · rename_i hb
    injection e with e
    subst e
    refine ⟨⟨h.most_le, h.pos, h.first, h.child, ?_⟩, Nat.le_refl _, fun j _ => rfl⟩
    intro f j h1 h2 h3
    by_cases hn : f = k ∧ j = t
    · obtain ⟨rfl, rfl⟩ := hn
      exact .inr (.inl (by simpa using hb))
    · exact h.whole f j h1 h2 (by omega)

theorem growTo_grown {n : NetL} {m : List Int} {most k : Nat} {s : List KnotX} (h : Grown n m most k 0 s) (hk : k < s.length) : ∀ (t : Nat) {s' : List KnotX}, t ≤ n.trans.length → growTo n most k s t = some s' →
    Grown n m most k t s' ∧ s.length ≤ s'.length ∧ ∀ j, j < s.length → knotAt s' j = knotAt s j
  | 0, s', _, e => by rw [growTo] at e; injection e with e; subst e; exact ⟨h, Nat.le_refl _, fun _ _ => rfl⟩
  | t + 1, s', ht, e => by
    rw [growTo] at e
    cases e1 : growTo n most k s t with
    | none => rw [e1] at e; cases e
    | some s1 =>
      rw [e1] at e
      obtain ⟨g1, l1, k1⟩ := growTo_grown h hk t (by omega) e1
      obtain ⟨g2, l2, k2⟩ := g1.step (Nat.lt_of_lt_of_le hk l1) (by omega) e
      exact ⟨g2, Nat.le_trans l1 l2, fun j hj => (k2 j (Nat.lt_of_lt_of_le hj l1)).trans (k1 j hj)⟩

theorem treeTo_grown {n : NetL} {m : List Int} {most : Nat} (hm : 1 ≤ most) : ∀ (k : Nat) {s : List KnotX}, treeTo n m most k = some s → Grown n m most k 0 s
  | 0, s, e => by rw [treeTo] at e; injection e with e; subst e; exact Grown.start hm
  | k + 1, s, e => by
    rw [treeTo] at e
    cases e1 : treeTo n m most k with
    | none => rw [e1] at e; cases e
    | some s1 =>
      have g1 := treeTo_grown hm k e1
      rw [e1] at e
      simp only [Option.bind_some] at e
      split at e
      · rename_i hk
        split at e
        · rename_i hs
          injection e with e
          subst e
          refine ⟨g1.most_le, g1.pos, g1.first, g1.child, ?_⟩
          intro f j h1 h2 h3
          by_cases hf : f = k
          · subst hf; exact .inl hs
          · exact g1.whole f j h1 h2 (by omega)
        · obtain ⟨g2, _, _⟩ := growTo_grown g1 hk _ (Nat.le_refl _) e
          exact ⟨g2.most_le, g2.pos, g2.first, g2.child, fun f j h1 h2 h3 => g2.whole f j h1 h2 (by omega)⟩
      · rename_i hk
        injection e with e
        subst e
        exact ⟨g1.most_le, g1.pos, g1.first, g1.child, fun f j h1 h2 h3 => g1.whole f j h1 h2 (by omega)⟩

/-- A tree that is whole. -/
structure TreeOk (n : NetL) (m : List Int) (s : List KnotX) : Prop where
  room : s.length ≤ 300
  fits : fitsL n m = true
  pos : 0 < s.length
  first : knotAt s 0 = rootK m
  child : ∀ j, 0 < j → j < s.length → ∃ u t', u < j ∧ t' < n.trans.length ∧ belowL (tranAt n.trans t').pre (knotAt s u).mark = true ∧ knotAt s j = kid n u t' (knotAt s u)
  whole : ∀ f j, f < s.length → j < n.trans.length → seenK (knotAt s f) = true ∨ belowL (tranAt n.trans j).pre (knotAt s f).mark = false ∨ ∃ g, g < s.length ∧ knotAt s g = kid n f j (knotAt s f)

theorem treeL_ok {n : NetL} {m : List Int} {most : Int} {l : List KnotL} (h : treeL n m most = (l, 0)) : ∃ s, l = s.map KnotX.knot ∧ TreeOk n m s := by
  unfold treeL at h
  split at h
  · rename_i hg
    simp only [graphOk, Bool.and_eq_true, decide_eq_true_eq] at hg
    split at h
    · rename_i s e
      simp only [Prod.mk.injEq, and_true] at h
      have g := treeTo_grown (by omega) _ e
      exact ⟨s, h.symm, by have := g.most_le; omega, hg.2, g.pos, g.first, g.child, fun f j h1 h2 => g.whole f j h1 h2 (.inl (by have := g.most_le; omega))⟩
    · simp at h
  · simp at h
theorem treeL_err {n : NetL} {m : List Int} {most : Int} (h : (treeL n m most).2 ≠ 0) : (treeL n m most).1 = [] := by
  unfold treeL at h ⊢
  split
  · rename_i hg
    rw [if_pos hg] at h
    split at h
    · simp at h
    · rfl
  · rfl
theorem treeL_code (n : NetL) (m : List Int) (most : Int) : (treeL n m most).2 = 0 ∨ (treeL n m most).2 = 2 ∨ (treeL n m most).2 = 4 := by
  unfold treeL
  split
  · split
    · exact .inl rfl
    · exact .inr (.inr rfl)
  · exact .inr (.inl rfl)

end Go.Proofs.Yteohpkicbkhpjaa
