import Derived.Test.YtgedpebnipghlaaGr05
import Derived.Test.YtgedpebnipghlaaGr01
import Derived.Test.YtgedpebnipghlaaGr00
import Derived.Test.YtgedpebnipghlaaRows
import Derived.ProofKit
import Derived.OpenShut
import Derived.ShutString
import Derived.ChangeOld
import Derived.SizedLaws
/- Plain words for what all marks of a net stay below. -/
namespace Go.Proofs.Ytgedpebnipghlaa
set_option linter.unusedVariables false
set_option maxRecDepth 4000

/-- Has a more than b? -1 is Many. -/
def moreL (a b : Int) : Bool := (b != -1) && ((a == -1) || decide (b < a))
theorem moreL_no {a b : Int} : moreL a b = false ↔ b = -1 ∨ (a ≠ -1 ∧ a ≤ b) := by
  unfold moreL
  rw [Bool.and_eq_false_iff, Bool.or_eq_false_iff, bne_eq_false_iff_eq, decide_eq_false_iff_not, beq_eq_false_iff_ne]
  omega
theorem moreL_yes {a b : Int} : moreL a b = true ↔ b ≠ -1 ∧ (a = -1 ∨ b < a) := by
  unfold moreL
  rw [Bool.and_eq_true, Bool.or_eq_true, bne_iff_ne, decide_eq_true_eq, beq_iff_eq]

def belowTo (a b : List Int) (k : Nat) : Bool := (List.range k).all fun p => !moreL (nth a p) (nth b p)
/-- Nowhere more. -/
def belowL (a b : List Int) : Bool := belowTo a b b.length
theorem belowTo_succ (a b : List Int) (k : Nat) : belowTo a b (k + 1) = (belowTo a b k && !moreL (nth a k) (nth b k)) := by
  simp [belowTo, List.range_succ]
theorem belowTo_iff (a b : List Int) (k : Nat) : belowTo a b k = true ↔ ∀ p, p < k → moreL (nth a p) (nth b p) = false := by
  simp [belowTo, List.all_eq_true]
theorem belowL_iff (a b : List Int) : belowL a b = true ↔ ∀ p, p < b.length → moreL (nth a p) (nth b p) = false := belowTo_iff a b b.length
theorem belowTo_no {a b : List Int} {k : Nat} (hk : k < b.length) (h : moreL (nth a k) (nth b k) = true) : belowL a b = false := by
  cases e : belowL a b
  · rfl
  · rw [(belowL_iff a b).1 e k hk] at h; cases h

def mapTo (k : Nat) (f : Nat → Int) : List Int := (List.range k).map f
theorem mapTo_succ (k : Nat) (f : Nat → Int) : mapTo (k + 1) f = mapTo k f ++ [f k] := by simp [mapTo, List.range_succ]
theorem mapTo_length (k : Nat) (f : Nat → Int) : (mapTo k f).length = k := by simp [mapTo]
theorem mapTo_nth (k : Nat) (f : Nat → Int) (p : Nat) (h : p < k) : nth (mapTo k f) p = f p := by simp [mapTo, nth, List.getD, h]

/-- What firing comes to. -/
def omAt (t : TranL) (m : List Int) (p : Nat) : Int := if nth m p = -1 then -1 else nth m p - nth t.pre p + nth t.post p
def omFire (t : TranL) (m : List Int) : List Int := mapTo m.length (omAt t m)

/-- Those places where x has more than y have Many, if y is below x. -/
def raiseAt (y x : List Int) (p : Nat) : Int := if moreL (nth x p) (nth y p) then -1 else nth x p
def raise1 (y x : List Int) : List Int := if belowL y x then mapTo x.length (raiseAt y x) else x
def raiseAll (mine : List (List Int)) (x : List Int) : List Int := mine.foldl (fun x y => raise1 y x) x
def raiseN (mine : List (List Int)) (x : List Int) : Nat → List Int
  | 0 => x
  | r + 1 => raiseAll mine (raiseN mine x r)

/-- As it was, but where it has Many. -/
def Raised (x z : List Int) : Prop := z.length = x.length ∧ ∀ p, nth z p = -1 ∨ nth z p = nth x p
theorem Raised.refl (x : List Int) : Raised x x := ⟨rfl, fun _ => .inr rfl⟩
theorem Raised.trans {x y z : List Int} (h : Raised x y) (k : Raised y z) : Raised x z := by
  refine ⟨k.1.trans h.1, fun p => ?_⟩
  rcases k.2 p with e | e
  · exact .inl e
  · rw [e]; exact h.2 p
theorem raise1_raised (y x : List Int) : Raised x (raise1 y x) := by
  unfold raise1
  split
  · refine ⟨mapTo_length _ _, fun p => ?_⟩
    by_cases hp : p < x.length
    · rw [mapTo_nth _ _ _ hp, raiseAt]
      split
      · exact .inl rfl
      · exact .inr rfl
    · rw [nth_past _ p (by rw [mapTo_length]; omega), nth_past x p (by omega)]; exact .inr rfl
  · exact Raised.refl x
theorem raiseAll_raised (mine : List (List Int)) : ∀ x, Raised x (raiseAll mine x) := by
  induction mine with
  | nil => exact fun x => Raised.refl x
  | cons y r ih => exact fun x => (raise1_raised y x).trans (ih (raise1 y x))
theorem raiseN_raised (mine : List (List Int)) (x : List Int) : ∀ r, Raised x (raiseN mine x r)
  | 0 => Raised.refl x
  | r + 1 => (raiseN_raised mine x r).trans (raiseAll_raised mine _)
/-- Where nothing has Many, it is as it was. -/
theorem Raised.same {x z : List Int} (h : Raised x z) (hz : ∀ p, nth z p ≠ -1) : z = x := eq_of_at h.1 fun p => by
  rcases h.2 p with e | e
  · exact absurd e (hz p)
  · exact e

/-- Where nobody is below with less somewhere, nothing is changed. -/
theorem raise_still {mine : List (List Int)} {x : List Int} (h : ∀ y ∈ mine, belowL y x = true → ∀ p, p < x.length → moreL (nth x p) (nth y p) = false) (r : Nat) : raiseN mine x r = x := by
  have h1 : ∀ y ∈ mine, raise1 y x = x := by
    intro y hy
    unfold raise1
    split
    · rename_i hb
      refine eq_of_at (mapTo_length _ _) fun p => ?_
      by_cases hp : p < x.length
      · rw [mapTo_nth _ _ _ hp, raiseAt, h y hy hb p hp]; rfl
      · rw [nth_past _ p (by rw [mapTo_length]; omega), nth_past x p (by omega)]
    · rfl
  have h2 : raiseAll mine x = x := by
    clear h
    unfold raiseAll
    induction mine with
    | nil => rfl
    | cons y l ih => rw [List.foldl_cons, h1 y (by simp)]; exact ih fun z hz => h1 z (by simp [hz])
  induction r with
  | zero => rfl
  | succ r ih => rw [raiseN, ih, h2]

/-- A knot, with the marks that it comes of. -/
structure KnotX where
  up : Int
  tran : Int
  mark : List Int
  line : List (List Int)

/-- A knot as it is answered. -/
structure KnotL where
  up : Int
  tran : Int
  mark : List Int

def KnotX.knot (x : KnotX) : KnotL := ⟨x.up, x.tran, x.mark⟩
def KnotX.mine (x : KnotX) : List (List Int) := x.line ++ [x.mark]
def noKnot : KnotX := ⟨0, 0, [], []⟩
def knotAt (s : List KnotX) (k : Nat) : KnotX := s.getD k noKnot
theorem knotAt_append {s r : List KnotX} {k : Nat} (h : k < s.length) : knotAt (s ++ r) k = knotAt s k := by
  rw [knotAt, knotAt, List.getD_eq_getElem?_getD, List.getD_eq_getElem?_getD, List.getElem?_append_left h]
theorem knotAt_last (s : List KnotX) (x : KnotX) : knotAt (s ++ [x]) s.length = x := by
  rw [knotAt, List.getD_eq_getElem?_getD, List.getElem?_append_right (Nat.le_refl _)]; simp
theorem knotAt_get {s : List KnotX} {k : Nat} (h : k < s.length) : knotAt s k = s[k] := by
  rw [knotAt, List.getD_eq_getElem?_getD, List.getElem?_eq_getElem h]; rfl

/-- What comes of a knot by a transition. -/
def kid (n : NetL) (k t : Nat) (x : KnotX) : KnotX := ⟨k, t, raiseN x.mine (omFire (tranAt n.trans t) x.mark) (n.places.toNat + 1), x.mine⟩
def growT (n : NetL) (most k : Nat) (s : List KnotX) (t : Nat) : Option (List KnotX) :=
  if belowL (tranAt n.trans t).pre (knotAt s k).mark then (if most ≤ s.length then none else some (s ++ [kid n k t (knotAt s k)])) else some s
def growTo (n : NetL) (most k : Nat) (s : List KnotX) : Nat → Option (List KnotX)
  | 0 => some s
  | t + 1 => (growTo n most k s t).bind fun s' => growT n most k s' t
def seenK (x : KnotX) : Bool := x.line.contains x.mark
def rootK (m : List Int) : KnotX := ⟨-1, -1, m, []⟩
/-- The first k knots are done. -/
def treeTo (n : NetL) (m : List Int) (most : Nat) : Nat → Option (List KnotX)
  | 0 => some [rootK m]
  | k + 1 => (treeTo n m most k).bind fun s => if k < s.length then (if seenK (knotAt s k) then some s else growTo n most k s n.trans.length) else some s

def treeL (n : NetL) (m : List Int) (most : Int) : List KnotL × Int :=
  if graphOk n m most then
    match treeTo n m most.toNat most.toNat with
    | some s => (s.map KnotX.knot, 0)
    | none => ([], 4)
  else ([], 2)

/-- The most at a place. -/
def topL (p : Nat) (l : List KnotL) (x : Int) : Int := l.foldl (fun x k => if moreL (nth k.mark p) x then nth k.mark p else x) x
def limitL (n : NetL) (m : List Int) (p most : Int) : Int × Int :=
  if (treeL n m most).2 == 0 then (if decide (0 ≤ p) && decide (p < n.places) then (topL p.toNat (treeL n m most).1 0, 0) else (0, 3)) else (0, (treeL n m most).2)

/-- What holds while knots come: k knots are done, and t transitions of knot k. -/
structure Grown (n : NetL) (m : List Int) (most k t : Nat) (s : List KnotX) : Prop where
  most_le : s.length ≤ most
  pos : 0 < s.length
  first : knotAt s 0 = rootK m
  child : ∀ j, 0 < j → j < s.length → ∃ u t', u < j ∧ t' < n.trans.length ∧ belowL (tranAt n.trans t').pre (knotAt s u).mark = true ∧ knotAt s j = kid n u t' (knotAt s u)
  whole : ∀ f j, f < s.length → j < n.trans.length → (f < k ∨ f = k ∧ j < t) → seenK (knotAt s f) = true ∨ belowL (tranAt n.trans j).pre (knotAt s f).mark = false ∨ ∃ g, g < s.length ∧ knotAt s g = kid n f j (knotAt s f)

theorem Grown.start {n : NetL} {m : List Int} {most : Nat} (hm : 1 ≤ most) : Grown n m most 0 0 [rootK m] where
  most_le := hm
  pos := Nat.one_pos
  first := rfl
  child := by intro j h1 h2; simp at h2; omega
  whole := by intro f j h1 h2 h3; omega

theorem Grown.step {n : NetL} {m : List Int} {most k t : Nat} {s s' : List KnotX} (h : Grown n m most k t s) (hk : k < s.length) (ht : t < n.trans.length) (e : growT n most k s t = some s') :
    Grown n m most k (t + 1) s' ∧ s.length ≤ s'.length ∧ ∀ j, j < s.length → knotAt s' j = knotAt s j := by
  unfold growT at e
  split at e
  · rename_i hb
    split at e
    · cases e
    · rename_i hl
      injection e with e
      subst e
      have hlen : (s ++ [kid n k t (knotAt s k)]).length = s.length + 1 := by simp
      refine ⟨⟨by omega, by omega, by rw [knotAt_append h.pos]; exact h.first, ?_, ?_⟩, by omega, fun j hj => knotAt_append hj⟩
      · intro j h1 h2
        by_cases hj : j < s.length
        · obtain ⟨u, t', q1, q2, q3, q4⟩ := h.child j h1 hj
          exact ⟨u, t', q1, q2, by rw [knotAt_append (by omega)]; exact q3, by rw [knotAt_append hj, knotAt_append (by omega)]; exact q4⟩
        · have e : j = s.length := by omega
          subst e
          exact ⟨k, t, hk, ht, by rw [knotAt_append hk]; exact hb, by rw [knotAt_last, knotAt_append hk]⟩
      · intro f j h1 h2 h3
        have hf : f < s.length := by omega
        rw [knotAt_append hf]
        by_cases hn : f = k ∧ j = t
        · obtain ⟨rfl, rfl⟩ := hn
          exact .inr (.inr ⟨s.length, by omega, by rw [knotAt_last]⟩)
        · rcases h.whole f j hf h2 (by omega) with q | q | ⟨g, q1, q2⟩
          · exact .inl q
          · exact .inr (.inl q)
          · exact .inr (.inr ⟨g, by omega, by rw [knotAt_append q1]; exact q2⟩)
  · rename_i hb
    injection e with e
    subst e
    refine ⟨⟨h.most_le, h.pos, h.first, h.child, ?_⟩, Nat.le_refl _, fun j _ => rfl⟩
    intro f j h1 h2 h3
    by_cases hn : f = k ∧ j = t
    · obtain ⟨rfl, rfl⟩ := hn
      exact .inr (.inl (by simpa using hb))
    · exact h.whole f j h1 h2 (by omega)

theorem growTo_grown {n : NetL} {m : List Int} {most k : Nat} {s : List KnotX} (h : Grown n m most k 0 s) (hk : k < s.length) : ∀ (t : Nat) {s' : List KnotX}, t ≤ n.trans.length → growTo n most k s t = some s' →
    Grown n m most k t s' ∧ s.length ≤ s'.length ∧ ∀ j, j < s.length → knotAt s' j = knotAt s j
  | 0, s', _, e => by rw [growTo] at e; injection e with e; subst e; exact ⟨h, Nat.le_refl _, fun _ _ => rfl⟩
  | t + 1, s', ht, e => by
    rw [growTo] at e
    cases e1 : growTo n most k s t with
    | none => rw [e1] at e; cases e
    | some s1 =>
      rw [e1] at e
      obtain ⟨g1, l1, k1⟩ := growTo_grown h hk t (by omega) e1
      obtain ⟨g2, l2, k2⟩ := g1.step (Nat.lt_of_lt_of_le hk l1) (by omega) e
      exact ⟨g2, Nat.le_trans l1 l2, fun j hj => (k2 j (Nat.lt_of_lt_of_le hj l1)).trans (k1 j hj)⟩

theorem treeTo_grown {n : NetL} {m : List Int} {most : Nat} (hm : 1 ≤ most) : ∀ (k : Nat) {s : List KnotX}, treeTo n m most k = some s → Grown n m most k 0 s
  | 0, s, e => by rw [treeTo] at e; injection e with e; subst e; exact Grown.start hm
  | k + 1, s, e => by
    rw [treeTo] at e
    cases e1 : treeTo n m most k with
    | none => rw [e1] at e; cases e
    | some s1 =>
      have g1 := treeTo_grown hm k e1
      rw [e1] at e
      simp only [Option.bind_some] at e
      split at e
      · rename_i hk
        split at e
        · rename_i hs
          injection e with e
          subst e
          refine ⟨g1.most_le, g1.pos, g1.first, g1.child, ?_⟩
          intro f j h1 h2 h3
          by_cases hf : f = k
          · subst hf; exact .inl hs
          · exact g1.whole f j h1 h2 (by omega)
        · obtain ⟨g2, _, _⟩ := growTo_grown g1 hk _ (Nat.le_refl _) e
          exact ⟨g2.most_le, g2.pos, g2.first, g2.child, fun f j h1 h2 h3 => g2.whole f j h1 h2 (by omega)⟩
      · rename_i hk
        injection e with e
        subst e
        exact ⟨g1.most_le, g1.pos, g1.first, g1.child, fun f j h1 h2 h3 => g1.whole f j h1 h2 (by omega)⟩

/-- A tree that is whole. -/
structure TreeOk (n : NetL) (m : List Int) (s : List KnotX) : Prop where
  room : s.length ≤ 300
  fits : fitsL n m = true
  pos : 0 < s.length
  first : knotAt s 0 = rootK m
  child : ∀ j, 0 < j → j < s.length → ∃ u t', u < j ∧ t' < n.trans.length ∧ belowL (tranAt n.trans t').pre (knotAt s u).mark = true ∧ knotAt s j = kid n u t' (knotAt s u)
  whole : ∀ f j, f < s.length → j < n.trans.length → seenK (knotAt s f) = true ∨ belowL (tranAt n.trans j).pre (knotAt s f).mark = false ∨ ∃ g, g < s.length ∧ knotAt s g = kid n f j (knotAt s f)

theorem treeL_ok {n : NetL} {m : List Int} {most : Int} {l : List KnotL} (h : treeL n m most = (l, 0)) : ∃ s, l = s.map KnotX.knot ∧ TreeOk n m s := by
  unfold treeL at h
  split at h
  · rename_i hg
    simp only [graphOk, Bool.and_eq_true, decide_eq_true_eq] at hg
    split at h
    · rename_i s e
      simp only [Prod.mk.injEq, and_true] at h
      have g := treeTo_grown (by omega) _ e
      exact ⟨s, h.symm, by have := g.most_le; omega, hg.2, g.pos, g.first, g.child, fun f j h1 h2 => g.whole f j h1 h2 (.inl (by have := g.most_le; omega))⟩
    · simp at h
  · simp at h
theorem treeL_err {n : NetL} {m : List Int} {most : Int} (h : (treeL n m most).2 ≠ 0) : (treeL n m most).1 = [] := by
  unfold treeL at h ⊢
  split
  · rename_i hg
    rw [if_pos hg] at h
    split at h
    · simp at h
    · rfl
  · rfl
theorem treeL_code (n : NetL) (m : List Int) (most : Int) : (treeL n m most).2 = 0 ∨ (treeL n m most).2 = 2 ∨ (treeL n m most).2 = 4 := by
  unfold treeL
  split
  · split
    · exact .inl rfl
    · exact .inr (.inr rfl)
  · exact .inr (.inl rfl)

end Go.Proofs.Ytgedpebnipghlaa

/- Plain facts on trees that cover: nothing rises above them, what has nowhere Many is bounded, where there are Many there is no end. -/
namespace Go.Proofs.Ytgedpebnipghlaa
set_option linter.unusedVariables false
set_option maxRecDepth 4000

theorem tran_weights {n : NetL} (hn : netOk n = true) {k : Nat} (hk : k < n.trans.length) (j : Nat) :
    (0 ≤ nth (tranAt n.trans k).pre j ∧ nth (tranAt n.trans k).pre j ≤ 9) ∧ 0 ≤ nth (tranAt n.trans k).post j ∧ nth (tranAt n.trans k).post j ≤ 9 := by
  have h := net_tran hn hk
  simp only [tranOk, tranHead, Bool.and_eq_true, List.all_append] at h
  have go : ∀ {xs : List Int}, xs.all weightOk = true → ∀ j, 0 ≤ nth xs j ∧ nth xs j ≤ 9 := by
    intro xs h j
    by_cases hj : j < xs.length
    · have := List.all_eq_true.1 h _ (List.getElem_mem hj)
      simp only [weightOk, Bool.and_eq_true, decide_eq_true_eq] at this
      simpa only [nth, List.getD, List.getElem?_eq_getElem hj, Option.getD_some] using this
    · rw [nth_past xs j (by omega)]; omega
  exact ⟨go h.2.1 j, go h.2.2 j⟩

/-- The shape of a mark of knot j. -/
def MarkOk (n : NetL) (j : Nat) (x : List Int) : Prop := (x.length : Int) = n.places ∧ ∀ p, -1 ≤ nth x p ∧ nth x p ≤ 1000000 + 9 * (j : Int)

theorem omFire_at {n : NetL} (hn : netOk n = true) {t : Nat} (ht : t < n.trans.length) {x : List Int} (hb : belowL (tranAt n.trans t).pre x = true) {j : Nat} (hx : MarkOk n j x) (p : Nat) :
    -1 ≤ nth (omFire (tranAt n.trans t) x) p ∧ nth (omFire (tranAt n.trans t) x) p ≤ 1000000 + 9 * (j : Int) + 9 := by
  obtain ⟨w1, w2⟩ := tran_weights hn ht p
  obtain ⟨x1, x2⟩ := hx.2 p
  unfold omFire
  by_cases hp : p < x.length
  · rw [mapTo_nth _ _ _ hp, omAt]
    have := (belowL_iff _ _).1 hb p hp
    rw [moreL_no] at this
    split <;> omega
  · rw [nth_past _ p (by rw [mapTo_length]; omega)]; omega
theorem kid_ok {n : NetL} (hn : netOk n = true) {u t : Nat} (ht : t < n.trans.length) {x : KnotX} (hb : belowL (tranAt n.trans t).pre x.mark = true) {j : Nat} (hx : MarkOk n u x.mark) (hu : u < j) : MarkOk n j (kid n u t x).mark := by
  obtain ⟨r1, r2⟩ := raiseN_raised x.mine (omFire (tranAt n.trans t) x.mark) (n.places.toNat + 1)
  refine ⟨by show ((raiseN _ _ _).length : Int) = _; rw [r1, omFire, mapTo_length]; exact hx.1, fun p => ?_⟩
  have h := omFire_at hn ht hb hx p
  show -1 ≤ nth (raiseN _ _ _) p ∧ nth (raiseN _ _ _) p ≤ _
  rcases r2 p with e | e <;> rw [e] <;> omega

theorem marks_ok {n : NetL} {m : List Int} {s : List KnotX} (hf : fitsL n m = true) (h0 : knotAt s 0 = rootK m)
    (hc : ∀ j, 0 < j → j < s.length → ∃ u t', u < j ∧ t' < n.trans.length ∧ belowL (tranAt n.trans t').pre (knotAt s u).mark = true ∧ knotAt s j = kid n u t' (knotAt s u)) :
    ∀ j, j < s.length → MarkOk n j (knotAt s j).mark := by
  obtain ⟨hn, hl, hr⟩ := fits_net hf
  intro j
  induction j using Nat.strongRecOn with
  | ind j ih =>
    intro hj
    by_cases e : j = 0
    · subst e
      rw [h0]
      refine ⟨hl, fun p => ?_⟩
      have := (rightL_iff m).1 hr p
      show -1 ≤ nth m p ∧ nth m p ≤ _
      omega
    · obtain ⟨u, t, hu, ht, hb, e1⟩ := hc j (by omega) hj
      rw [e1]
      exact kid_ok hn ht hb (ih u hu (by omega)) hu
theorem TreeOk.marks {n : NetL} {m : List Int} {s : List KnotX} (h : TreeOk n m s) {j : Nat} (hj : j < s.length) : MarkOk n j (knotAt s j).mark := marks_ok h.fits h.first h.child j hj
theorem Grown.marks {n : NetL} {m : List Int} {most k t : Nat} {s : List KnotX} (h : Grown n m most k t s) (hf : fitsL n m = true) {j : Nat} (hj : j < s.length) : MarkOk n j (knotAt s j).mark := marks_ok hf h.first h.child j hj

/-- What a knot comes of are marks of knots ahead of it. -/
theorem line_mem {n : NetL} {m : List Int} {s : List KnotX} (h0 : knotAt s 0 = rootK m)
    (hc : ∀ j, 0 < j → j < s.length → ∃ u t', u < j ∧ t' < n.trans.length ∧ belowL (tranAt n.trans t').pre (knotAt s u).mark = true ∧ knotAt s j = kid n u t' (knotAt s u)) :
    ∀ j, j < s.length → ∀ y ∈ (knotAt s j).line, ∃ i, i < j ∧ (knotAt s i).mark = y := by
  intro j
  induction j using Nat.strongRecOn with
  | ind j ih =>
    intro hj y hy
    by_cases e : j = 0
    · subst e; rw [h0] at hy; simp [rootK] at hy
    · obtain ⟨u, t, hu, ht, hb, e1⟩ := hc j (by omega) hj
      rw [e1] at hy
      rcases List.mem_append.1 (show y ∈ (knotAt s u).line ++ [(knotAt s u).mark] from hy) with q | q
      · obtain ⟨i, h1, h2⟩ := ih u hu (by omega) y q
        exact ⟨i, by omega, h2⟩
      · exact ⟨u, hu, (List.mem_singleton.1 q).symm⟩

theorem line_len {n : NetL} {m : List Int} {s : List KnotX} (h0 : knotAt s 0 = rootK m)
    (hc : ∀ j, 0 < j → j < s.length → ∃ u t', u < j ∧ t' < n.trans.length ∧ belowL (tranAt n.trans t').pre (knotAt s u).mark = true ∧ knotAt s j = kid n u t' (knotAt s u)) :
    ∀ j, j < s.length → (knotAt s j).line.length ≤ j := by
  intro j
  induction j using Nat.strongRecOn with
  | ind j ih =>
    intro hj
    by_cases e : j = 0
    · subst e; rw [h0]; simp [rootK]
    · obtain ⟨u, t, hu, ht, hb, e1⟩ := hc j (by omega) hj
      have := ih u hu (by omega)
      rw [e1]
      show ((knotAt s u).line ++ [(knotAt s u).mark]).length ≤ j
      simp; omega
theorem Grown.line {n : NetL} {m : List Int} {most k t : Nat} {s : List KnotX} (h : Grown n m most k t s) {j : Nat} (hj : j < s.length) : (knotAt s j).line.length ≤ j := line_len h.first h.child j hj

theorem Grown.mineLen {n : NetL} {m : List Int} {most k t : Nat} {s : List KnotX} (h : Grown n m most k t s) (hf : fitsL n m = true) {i : Nat} (hi : i < s.length) {j : Nat} (hj : j < (knotAt s i).mine.length) : ((markAt (knotAt s i).mine j).length : Int) = n.places := by
  rcases List.mem_append.1 (show markAt (knotAt s i).mine j ∈ (knotAt s i).line ++ [(knotAt s i).mark] from markAt_mem hj) with q | q
  · obtain ⟨u, h1, h2⟩ := line_mem h.first h.child i hi _ q
    rw [← h2]; exact (h.marks hf (by omega)).1
  · rw [List.mem_singleton] at q; rw [q]; exact (h.marks hf hi).1

/-- Each mark is one of a knot that nothing ahead is the same as. -/
theorem TreeOk.unseen {n : NetL} {m : List Int} {s : List KnotX} (h : TreeOk n m s) : ∀ j, j < s.length → ∃ i, i < s.length ∧ (knotAt s i).mark = (knotAt s j).mark ∧ seenK (knotAt s i) = false := by
  intro j
  induction j using Nat.strongRecOn with
  | ind j ih =>
    intro hj
    cases hs : seenK (knotAt s j)
    · exact ⟨j, hj, rfl, hs⟩
    · obtain ⟨i, h1, h2⟩ := line_mem h.first h.child j hj _ (List.contains_iff_mem.1 hs)
      obtain ⟨i', q1, q2, q3⟩ := ih i h1 (by omega)
      exact ⟨i', q1, q2.trans h2, q3⟩

/-- At each place as many, or Many. -/
def CovM (u x : List Int) : Prop := u.length = x.length ∧ ∀ p, p < x.length → nth u p = -1 ∨ nth x p ≤ nth u p

theorem TreeOk.cov_step {n : NetL} {m x y : List Int} {s : List KnotX} {t : Int} (h : TreeOk n m s) (hx : ∃ k, k < s.length ∧ CovM (knotAt s k).mark x) (hf : fireL n x t = (y, 0)) : ∃ k, k < s.length ∧ CovM (knotAt s k).mark y := by
  obtain ⟨k0, hk0, hc0⟩ := hx
  obtain ⟨k, hk, e, hu⟩ := h.unseen k0 hk0
  have hc : CovM (knotAt s k).mark x := by rw [e]; exact hc0
  obtain ⟨j, rfl, hj, hfx, hcv, _, rfl⟩ := fire_ok hf
  rw [coversL_iff] at hcv
  obtain ⟨hn, hl, hr⟩ := fits_net hfx
  obtain ⟨l1, l2⟩ := tran_length hn hj
  have hb : belowL (tranAt n.trans j).pre (knotAt s k).mark = true := by
    rw [belowL_iff]
    intro p hp
    rw [moreL_no]
    have := hcv p
    obtain ⟨⟨w1, _⟩, _⟩ := tran_weights hn hj p
    rcases hc.2 p (by rw [← hc.1]; exact hp) with q | q
    · exact .inl q
    · exact .inr (by omega)
  rcases h.whole k j hk hj with q | q | ⟨g, hg, e2⟩
  · rw [q] at hu; cases hu
  · rw [q] at hb; cases hb
  · refine ⟨g, hg, ?_⟩
    rw [e2]
    obtain ⟨r1, r2⟩ := raiseN_raised (knotAt s k).mine (omFire (tranAt n.trans j) (knotAt s k).mark) (n.places.toNat + 1)
    have hlen : (addL (subL x (tranAt n.trans j).pre) (tranAt n.trans j).post).length = x.length := by rw [add_length, sub_length]; omega
    refine ⟨by rw [hlen, ← hc.1]; exact r1.trans (mapTo_length _ _), fun p hp => ?_⟩
    rw [hlen] at hp
    show nth (raiseN _ _ _) p = -1 ∨ _ ≤ nth (raiseN _ _ _) p
    rcases r2 p with q | q
    · exact .inl q
    · rw [q, omFire, mapTo_nth _ _ _ (by rw [hc.1]; exact hp), omAt, add_at, sub_at]
      split
      · exact .inl rfl
      · rename_i hne
        rcases hc.2 p hp with q2 | q2
        · exact absurd q2 hne
        · exact .inr (by omega)

theorem TreeOk.cov_run {n : NetL} {m : List Int} {s : List KnotX} (h : TreeOk n m s) (seq : List Int) : ∀ {a x : List Int}, (∃ k, k < s.length ∧ CovM (knotAt s k).mark a) → runL n a seq = (x, 0) → ∃ k, k < s.length ∧ CovM (knotAt s k).mark x := by
  induction seq with
  | nil => intro a x ha e; obtain ⟨_, rfl⟩ := run_nil.1 e; exact ha
  | cons t ts ih => intro a x ha e; obtain ⟨z, h1, h2⟩ := run_cons.1 e; exact ih (h.cov_step ha h1) h2
/-- Nothing rises above it. -/
theorem TreeOk.covers {n : NetL} {m x : List Int} {s : List KnotX} (h : TreeOk n m s) {seq : List Int} (e : runL n m seq = (x, 0)) : ∃ k, k < s.length ∧ CovM (knotAt s k).mark x :=
  h.cov_run seq ⟨0, h.pos, by rw [h.first]; exact ⟨rfl, fun p _ => .inr (Int.le_refl _)⟩⟩ e

/-- A firing, however many tokens there are. -/
def StepZ (n : NetL) (x : List Int) (t : Nat) (y : List Int) : Prop := t < n.trans.length ∧ (∀ p, nth (tranAt n.trans t).pre p ≤ nth x p) ∧ y = addL (subL x (tranAt n.trans t).pre) (tranAt n.trans t).post
/-- What is come to by firings. -/
def ReachZ (n : NetL) (a b : List Int) : Prop := ∀ P : List Int → Prop, P a → (∀ (x y : List Int) (t : Nat), P x → StepZ n x t y → P y) → P b
theorem ReachZ.here {n : NetL} {a : List Int} : ReachZ n a a := fun _ h _ => h
theorem ReachZ.step {n : NetL} {a x y : List Int} {t : Nat} (h : ReachZ n a x) (hs : StepZ n x t y) : ReachZ n a y := fun P h0 h1 => h1 x y t (h P h0 h1) hs
theorem ReachZ.ind {n : NetL} {a : List Int} {motive : (b : List Int) → ReachZ n a b → Prop} (here : motive a ReachZ.here) (step : ∀ {x y : List Int} {t : Nat} (h : ReachZ n a x) (hs : StepZ n x t y), motive x h → motive y (h.step hs)) {b : List Int} (h : ReachZ n a b) : motive b h := by
  obtain ⟨h', q⟩ := h (fun b => ∃ h : ReachZ n a b, motive b h) ⟨ReachZ.here, here⟩ (fun x y t ⟨hx, qx⟩ hs => ⟨hx.step hs, step hx hs qx⟩)
  exact q
theorem ReachZ.trans {n : NetL} {a b c : List Int} (h : ReachZ n a b) (k : ReachZ n b c) : ReachZ n a c := by
  induction k using ReachZ.ind with
  | here => exact h
  | step _ hs ih => exact ih.step hs
theorem ReachZ.length {n : NetL} (hn : netOk n = true) {a b : List Int} (h : ReachZ n a b) (ha : (a.length : Int) = n.places) : (b.length : Int) = n.places := by
  induction h using ReachZ.ind with
  | here => exact ha
  | step _ hs ih =>
    obtain ⟨ht, _, rfl⟩ := hs
    obtain ⟨l1, l2⟩ := tran_length hn ht
    rw [add_length, sub_length]; omega
theorem StepZ.nonneg {n : NetL} (hn : netOk n = true) {x y : List Int} {t : Nat} (h : StepZ n x t y) (p : Nat) : 0 ≤ nth y p := by
  obtain ⟨ht, hc, rfl⟩ := h
  have := hc p
  have := (tran_weights hn ht p).2
  rw [add_at, sub_at]; omega
/-- With so much more it can be done as well. -/
theorem ReachZ.more {n : NetL} (hn : netOk n = true) {a b d : List Int} (h : ReachZ n a b) (ha : (a.length : Int) = n.places) (hd : (d.length : Int) = n.places) (h0 : ∀ p, 0 ≤ nth d p) : ReachZ n (addL a d) (addL b d) := by
  induction h using ReachZ.ind with
  | here => exact .here
  | @step x y t hr hs ih =>
    refine ih.step (t := t) ?_
    have hx := hr.length hn ha
    obtain ⟨ht, hc, rfl⟩ := hs
    obtain ⟨l1, l2⟩ := tran_length hn ht
    refine ⟨ht, fun p => by rw [add_at]; have := hc p; have := h0 p; omega, eq_of_at (by simp only [add_length, sub_length]; omega) fun p => by simp only [add_at, sub_at]; omega⟩

theorem omFire_plain {n : NetL} (hn : netOk n = true) {t : Nat} (ht : t < n.trans.length) {x : List Int} (hl : (x.length : Int) = n.places) (h : ∀ p, nth x p ≠ -1) : omFire (tranAt n.trans t) x = addL (subL x (tranAt n.trans t).pre) (tranAt n.trans t).post := by
  obtain ⟨l1, l2⟩ := tran_length hn ht
  refine eq_of_at (by rw [omFire, mapTo_length, add_length, sub_length]; omega) fun p => ?_
  rw [add_at, sub_at]
  by_cases hp : p < x.length
  · rw [omFire, mapTo_nth _ _ _ hp, omAt, if_neg (h p)]
  · rw [omFire, nth_past _ p (by rw [mapTo_length]; omega), nth_past x p (by omega), nth_past (tranAt n.trans t).pre p (by omega), nth_past (tranAt n.trans t).post p (by omega)]; rfl
theorem below_plain {n : NetL} (hn : netOk n = true) {t : Nat} (ht : t < n.trans.length) {x : List Int} (hl : (x.length : Int) = n.places) (h : ∀ p, nth x p ≠ -1) : belowL (tranAt n.trans t).pre x = true ↔ ∀ p, nth (tranAt n.trans t).pre p ≤ nth x p := by
  obtain ⟨l1, l2⟩ := tran_length hn ht
  rw [belowL_iff]
  constructor
  · intro q p
    by_cases hp : p < x.length
    · have := q p hp; rw [moreL_no] at this; have := h p; omega
    · rw [nth_past _ p (by omega), nth_past x p (by omega)]; omega
  · intro q p hp
    rw [moreL_no]
    have := q p
    have := (tran_weights hn ht p).1
    omega

/-- Where the first J knots have nowhere Many, they are come to; and what they come of leads to them. -/
theorem TreeOk.exact {n : NetL} {m : List Int} {s : List KnotX} (h : TreeOk n m s) {J : Nat} (hJ : J ≤ s.length) (hm : ∀ i, i < J → ∀ p, nth (knotAt s i).mark p ≠ -1) : ∀ i, i < J →
    ReachZ n m (knotAt s i).mark ∧ ∀ y ∈ (knotAt s i).line, ReachZ n m y ∧ ReachZ n y (knotAt s i).mark := by
  obtain ⟨hn, hl, hr⟩ := fits_net h.fits
  intro i
  induction i using Nat.strongRecOn with
  | ind i ih =>
    intro hi
    by_cases e : i = 0
    · subst e
      rw [h.first]
      exact ⟨.here, fun y hy => by simp [rootK] at hy⟩
    · obtain ⟨u, t, hu, ht, hb, e1⟩ := h.child i (by omega) (by omega)
      obtain ⟨q1, q2⟩ := ih u hu (by omega)
      have hmu := hm u (by omega)
      have hlu := (h.marks (j := u) (by omega)).1
      have hz : (knotAt s i).mark = addL (subL (knotAt s u).mark (tranAt n.trans t).pre) (tranAt n.trans t).post := by
        have r := raiseN_raised (knotAt s u).mine (omFire (tranAt n.trans t) (knotAt s u).mark) (n.places.toNat + 1)
        have := r.same (fun p => by have := hm i hi p; rw [e1] at this; exact this)
        rw [e1]
        exact this.trans (omFire_plain hn ht hlu hmu)
      have hst : StepZ n (knotAt s u).mark t (knotAt s i).mark := ⟨ht, (below_plain hn ht hlu hmu).1 hb, hz⟩
      refine ⟨q1.step hst, fun y hy => ?_⟩
      rw [e1] at hy
      rcases List.mem_append.1 (show y ∈ (knotAt s u).line ++ [(knotAt s u).mark] from hy) with q | q
      · exact ⟨(q2 y q).1, (q2 y q).2.step hst⟩
      · rw [List.mem_singleton] at q; subst q; exact ⟨q1, ReachZ.here.step hst⟩

/-- Where nothing has Many, all that is come to is there. -/
theorem TreeOk.all {n : NetL} {m x : List Int} {s : List KnotX} (h : TreeOk n m s) (hm : ∀ i, i < s.length → ∀ p, nth (knotAt s i).mark p ≠ -1) (hr : ReachZ n m x) : ∃ k, k < s.length ∧ (knotAt s k).mark = x := by
  obtain ⟨hn, hl, _⟩ := fits_net h.fits
  induction hr using ReachZ.ind with
  | here => exact ⟨0, h.pos, by rw [h.first]; rfl⟩
  | @step x y t _ hs ih =>
    obtain ⟨k0, hk0, e0⟩ := ih
    obtain ⟨k, hk, e, hu⟩ := h.unseen k0 hk0
    rw [e0] at e
    obtain ⟨ht, hc, rfl⟩ := hs
    have hlk := (h.marks hk).1
    have hb := (below_plain hn ht hlk (hm k hk)).2 (by rw [e]; exact hc)
    rcases h.whole k t hk ht with q | q | ⟨g, hg, e2⟩
    · rw [q] at hu; cases hu
    · rw [q] at hb; cases hb
    · refine ⟨g, hg, ?_⟩
      have r := raiseN_raised (knotAt s k).mine (omFire (tranAt n.trans t) (knotAt s k).mark) (n.places.toNat + 1)
      have := r.same (fun p => by have := hm g hg p; rw [e2] at this; exact this)
      rw [e2, ← e]
      exact this.trans (omFire_plain hn ht hlk (hm k hk))

theorem run_reachZ {n : NetL} (seq : List Int) : ∀ {a x : List Int}, runL n a seq = (x, 0) → ReachZ n a x := by
  induction seq with
  | nil => intro a x e; obtain ⟨_, rfl⟩ := run_nil.1 e; exact .here
  | cons t ts ih =>
    intro a x e
    obtain ⟨z, h1, h2⟩ := run_cons.1 e
    obtain ⟨j, rfl, hj, _, hc, _, rfl⟩ := fire_ok h1
    exact (ReachZ.here.step ⟨hj, (coversL_iff _ _).1 hc, rfl⟩).trans (ih h2)

theorem fire_code {n : NetL} {x : List Int} (hf : fitsL n x = true) {t : Nat} (ht : t < n.trans.length) (hc : ∀ p, nth (tranAt n.trans t).pre p ≤ nth x p) : (fireL n x t).2 ≠ 3 := by
  unfold fireL
  rw [hf, decide_eq_true (show (0 : Int) ≤ t by omega), decide_eq_true (show (t : Int) < n.trans.length by omega), Int.toNat_natCast, (coversL_iff _ _).2 hc]
  simp only [Bool.and_true, if_true]
  split <;> simp

/-- What is come to is among all marks. -/
theorem Whole.has {n : NetL} {m x : List Int} {s : SpaceL} (h : Whole n m s) (hr : ReachZ n m x) : ∃ g, g < s.marks.length ∧ markAt s.marks g = x := by
  induction hr using ReachZ.ind with
  | here => exact ⟨0, h.here⟩
  | @step x y t _ hs ih =>
    obtain ⟨f, hf, rfl⟩ := ih
    obtain ⟨ht, hc, rfl⟩ := hs
    have hfit : fitsL n (markAt s.marks f) = true := by obtain ⟨_, _, hF, _⟩ := h; exact hF.fits _ (markAt_mem hf)
    rcases h.fire hf t with q | ⟨j, g, e, _, hg, e2⟩
    · exact absurd q (fire_code hfit ht hc)
    · obtain ⟨j', e3, _, _, _, _, e4⟩ := fire_ok e2
      have : j' = t := by omega
      subst this
      exact ⟨g, hg, e4⟩
theorem Whole.fits {n : NetL} {m : List Int} {s : SpaceL} (h : Whole n m s) {g : Nat} (hg : g < s.marks.length) : fitsL n (markAt s.marks g) = true := by
  obtain ⟨_, _, hF, _⟩ := h; exact hF.fits _ (markAt_mem hg)

/-- What was found is come to. -/
theorem Found.reachZ {n : NetL} {m : List Int} {most k t : Nat} {s : SpaceL} (h : Found n m most k t s) : ∀ g, g < s.marks.length → ReachZ n m (markAt s.marks g) := by
  intro g
  induction g using Nat.strongRecOn with
  | ind g ih =>
    intro hg
    by_cases e : g = 0
    · subst e; rw [h.first]; exact .here
    · obtain ⟨a, ha, hlt⟩ := h.par g (by omega) hg
      obtain ⟨h1, h2⟩ := firstTo_mem ha
      obtain ⟨q1, q2, q3, q4, q5⟩ := h.sound a h1
      obtain ⟨j, e3, hj, _, hc, _, e4⟩ := fire_ok q5
      rw [h2] at e4
      exact (ih a.frm hlt q1).step ⟨hj, (coversL_iff _ _).1 hc, e4⟩

/-- What has nowhere Many is bounded: or there are more tokens than marks may have. -/
theorem TreeOk.full {n : NetL} {m : List Int} {s : List KnotX} (h : TreeOk n m s) (hm : ∀ i, i < s.length → ∀ p, nth (knotAt s i).mark p ≠ -1) (hg : (graphL n m 300).2 ≠ 0) : ∃ k p, k < s.length ∧ 1000000 < nth (knotAt s k).mark p := by
  obtain ⟨hn, hl, _⟩ := fits_net h.fits
  have hno : graphTo n m 300 300 = none := by
    unfold graphL at hg
    rw [graphOk_300 h.fits] at hg
    simp only [if_true] at hg
    cases e : graphTo n m 300 300 with
    | none => rfl
    | some sp => exact absurd (show _ from hg) (by rw [show (300 : Int).toNat = 300 from rfl, e]; simp)
  obtain ⟨f, j, sp, hj, hF, hf, ht⟩ := graph_broke (by omega) h.fits 300 hno
  have hfit := hF.fits _ (markAt_mem hf)
  have hz := hF.reachZ f hf
  unfold tryT at ht
  split at ht
  · cases ht
  · rename_i h3
    have hcv : coversL (markAt sp.marks f) (tranAt n.trans j).pre = true := by
      cases hc : coversL (markAt sp.marks f) (tranAt n.trans j).pre
      · refine absurd ?_ h3
        unfold fireL
        rw [hfit, Int.toNat_natCast, hc]; simp
      · rfl
    have hst : StepZ n (markAt sp.marks f) j (addL (subL (markAt sp.marks f) (tranAt n.trans j).pre) (tranAt n.trans j).post) := ⟨hj, (coversL_iff _ _).1 hcv, rfl⟩
    cases hr : rightL (addL (subL (markAt sp.marks f) (tranAt n.trans j).pre) (tranAt n.trans j).post)
    · obtain ⟨k, hk, e⟩ := h.all hm (hz.step hst)
      have hnr : ¬ ∀ p, 0 ≤ nth (knotAt s k).mark p ∧ nth (knotAt s k).mark p ≤ 1000000 := by rw [← rightL_iff, e, hr]; simp
      rw [Classical.not_forall] at hnr
      obtain ⟨p, hp⟩ := hnr
      have := hst.nonneg hn p
      rw [← e] at this
      exact ⟨k, p, hk, by omega⟩
    · have e1 := fire_mk hj hfit hcv hr
      rw [e1] at ht
      simp only [BEq.rfl, if_true] at ht
      split at ht
      · cases ht
      · rename_i hfn
        split at ht
        · rename_i hlen
          exfalso
          have hx := findM_none hfn
          have hnd : (sp.marks ++ [addL (subL (markAt sp.marks f) (tranAt n.trans j).pre) (tranAt n.trans j).post]).Nodup := by
            rw [List.nodup_append]
            exact ⟨hF.nodup, by simp, fun a ha b hb e => by rw [List.mem_singleton] at hb; subst hb; subst e; exact hx ha⟩
          have := nodup_sub (l2 := s.map KnotX.mark) hnd (fun x hx => by
            have hxz : ReachZ n m x := by
              rcases List.mem_append.1 hx with q | q
              · obtain ⟨i, hi, rfl⟩ := List.getElem_of_mem q
                have := hF.reachZ i hi
                rw [markAt, List.getD_eq_getElem?_getD, List.getElem?_eq_getElem hi] at this
                exact this
              · rw [List.mem_singleton] at q; subst q; exact hz.step hst
            obtain ⟨k, hk, e⟩ := h.all hm hxz
            rw [← e, knotAt_get hk]
            exact List.mem_map.2 ⟨s[k], List.getElem_mem hk, rfl⟩)
          simp at this
          have := h.room
          omega
        · cases ht

theorem TreeOk.same {n : NetL} {m : List Int} {s : List KnotX} {sp : SpaceL} (h : TreeOk n m s) (hm : ∀ i, i < s.length → ∀ p, nth (knotAt s i).mark p ≠ -1) (hg : graphL n m 300 = (sp, 0)) :
    (∀ g, g < sp.marks.length → ∃ k, k < s.length ∧ (knotAt s k).mark = markAt sp.marks g) ∧ ∀ k, k < s.length → ∃ g, g < sp.marks.length ∧ markAt sp.marks g = (knotAt s k).mark := by
  have hw := graphL_whole hg
  refine ⟨fun g hlt => ?_, fun k hk => hw.has (h.exact (Nat.le_refl _) hm k hk).1⟩
  obtain ⟨_, _, hF, _⟩ := hw
  exact h.all hm (hF.reachZ g hlt)

/-- Where there are Many there is no end. -/
theorem TreeOk.many {n : NetL} {m : List Int} {s : List KnotX} (h : TreeOk n m s) (hm : ∃ i p, i < s.length ∧ nth (knotAt s i).mark p = -1) : (graphL n m 300).2 = 4 := by
  obtain ⟨hn, hl, hr⟩ := fits_net h.fits
  have main : ∀ sp, graphL n m 300 ≠ (sp, 0) := by
    intro sp hg
    have hw := graphL_whole hg
    -- the first knot that has Many
    have hex : ∃ i, i < s.length ∧ (∃ p, nth (knotAt s i).mark p = -1) ∧ ∀ i', i' < i → ∀ p, nth (knotAt s i').mark p ≠ -1 := by
      obtain ⟨i, p, hi, hp⟩ := hm
      clear hg hw
      induction i using Nat.strongRecOn generalizing p with
      | ind i ih =>
        by_cases hall : ∀ i', i' < i → ∀ p, nth (knotAt s i').mark p ≠ -1
        · exact ⟨i, hi, ⟨p, hp⟩, hall⟩
        · rw [Classical.not_forall] at hall
          obtain ⟨i', hall⟩ := hall
          rw [Classical.not_imp] at hall
          obtain ⟨hi', hall⟩ := hall
          rw [Classical.not_forall] at hall
          obtain ⟨p', hp'⟩ := hall
          exact ih i' hi' p' (by omega) (Classical.not_not.1 hp')
    obtain ⟨i, hi, ⟨p0, hp0⟩, hfirst⟩ := hex
    have hi0 : 0 < i := by
      rcases Nat.eq_zero_or_pos i with e | e
      · subst e
        rw [h.first] at hp0
        have := (rightL_iff m).1 hr p0
        have hp0 : nth m p0 = -1 := hp0
        omega
      · exact e
    obtain ⟨u, t, hu, ht, hb, e1⟩ := h.child i hi0 hi
    have hmu := hfirst u hu
    have hlu := (h.marks (j := u) (by omega)).1
    have hx := omFire_plain hn ht hlu hmu
    have hst : StepZ n (knotAt s u).mark t (omFire (tranAt n.trans t) (knotAt s u).mark) := ⟨ht, (below_plain hn ht hlu hmu).1 hb, hx⟩
    obtain ⟨z1, z2⟩ := h.exact (Nat.le_of_lt hi) hfirst u hu
    -- somebody below it, with less somewhere
    have hy : ∃ y ∈ (knotAt s u).mine, belowL y (omFire (tranAt n.trans t) (knotAt s u).mark) = true ∧ ∃ p, p < (omFire (tranAt n.trans t) (knotAt s u).mark).length ∧ moreL (nth (omFire (tranAt n.trans t) (knotAt s u).mark) p) (nth y p) = true := by
      refine Classical.byContradiction fun hno => ?_
      have := raise_still (mine := (knotAt s u).mine) (x := omFire (tranAt n.trans t) (knotAt s u).mark) (fun y hy hyb p hp => by
        cases hmo : moreL (nth (omFire (tranAt n.trans t) (knotAt s u).mark) p) (nth y p)
        · rfl
        · exact absurd ⟨y, hy, hyb, p, hp, hmo⟩ hno) (n.places.toNat + 1)
      rw [e1] at hp0
      have hp0 : nth (raiseN (knotAt s u).mine (omFire (tranAt n.trans t) (knotAt s u).mark) (n.places.toNat + 1)) p0 = -1 := hp0
      rw [this] at hp0
      have := hst.nonneg hn p0
      omega
    generalize omFire (tranAt n.trans t) (knotAt s u).mark = x at *
    obtain ⟨y, hym, hyb, p, hp, hmore⟩ := hy
    have hyz : ReachZ n m y ∧ ReachZ n y x := by
      rcases List.mem_append.1 (show y ∈ (knotAt s u).line ++ [(knotAt s u).mark] from hym) with q | q
      · exact ⟨(z2 y q).1, (z2 y q).2.step hst⟩
      · rw [List.mem_singleton] at q; subst q; exact ⟨z1, ReachZ.here.step hst⟩
    have hyl := hyz.1.length hn hl
    have hxl := hyz.2.length hn hyl
    have hx0 := fun q => hst.nonneg hn q
    have hle : ∀ q, nth y q ≤ nth x q := by
      intro q
      by_cases hq : q < x.length
      · have := (belowL_iff _ _).1 hyb q hq
        rw [moreL_no] at this
        have := hx0 q
        omega
      · rw [nth_past y q (by omega), nth_past x q (by omega)]; omega
    have hlt : nth y p < nth x p := by rw [moreL_yes] at hmore; have := hx0 p; omega
    -- again and again
    have hrep : ∀ c : Nat, ∃ z, ReachZ n m z ∧ (z.length : Int) = n.places ∧ (∀ q, nth y q ≤ nth z q) ∧ nth y p + c ≤ nth z p := by
      intro c
      induction c with
      | zero => exact ⟨y, hyz.1, hyl, fun q => Int.le_refl _, by simp⟩
      | succ c ih =>
        obtain ⟨z, hz, hzl, hz1, hz2⟩ := ih
        have ed : addL y (subL z y) = z := eq_of_at (by rw [add_length, sub_length]; omega) fun q => by rw [add_at, sub_at]; omega
        have hm2 := hyz.2.more hn hyl (d := subL z y) (by rw [sub_length]; omega) (fun q => by rw [sub_at]; have := hz1 q; omega)
        rw [ed] at hm2
        refine ⟨_, hz.trans hm2, by rw [add_length, sub_length]; omega, fun q => ?_, ?_⟩
        · rw [add_at, sub_at]; have := hz1 q; have := hle q; omega
        · rw [add_at, sub_at]; push_cast; omega
    obtain ⟨z, hz, _, _, hz2⟩ := hrep 2000002
    obtain ⟨g, hg1, rfl⟩ := hw.has hz
    have := (fits_net (hw.fits hg1)).2.2
    have := (rightL_iff _).1 this p
    obtain ⟨g2, hg2, e2⟩ := hw.has hyz.1
    have hy2 := (fits_net (hw.fits hg2)).2.2
    rw [e2] at hy2
    have := (rightL_iff _).1 hy2 p
    omega
  have hco : graphOk n m 300 = true := graphOk_300 h.fits
  unfold graphL at main ⊢
  rw [hco] at main ⊢
  simp only [if_true] at main ⊢
  split at main
  · rename_i sp e; exact absurd rfl (main sp)
  · rfl

/-- What is no more than another one, which is no more than a third. -/
theorem moreL_trans {a b c : Int} (h1 : moreL a b = false) (h2 : moreL b c = false) : moreL a c = false := by
  rw [moreL_no] at *; omega
theorem topL_ge (p : Nat) (l : List KnotL) : ∀ x, moreL x (topL p l x) = false ∧ ∀ k ∈ l, moreL (nth k.mark p) (topL p l x) = false := by
  induction l with
  | nil => exact fun x => ⟨by rw [moreL_no]; show x = -1 ∨ x ≠ -1 ∧ x ≤ x; omega, fun k hk => by simp at hk⟩
  | cons k l ih =>
    intro x
    have e : topL p (k :: l) x = topL p l (if moreL (nth k.mark p) x then nth k.mark p else x) := rfl
    rw [e]
    obtain ⟨q1, q2⟩ := ih (if moreL (nth k.mark p) x then nth k.mark p else x)
    cases hk : moreL (nth k.mark p) x
    · rw [hk] at q1 q2
      simp only [Bool.false_eq_true, if_false] at q1 q2 ⊢
      exact ⟨q1, fun k' hk' => by
        rcases List.mem_cons.1 hk' with rfl | h'
        · exact moreL_trans hk q1
        · exact q2 k' h'⟩
    · rw [hk] at q1 q2
      simp only [if_true] at q1 q2 ⊢
      refine ⟨moreL_trans ?_ q1, fun k' hk' => ?_⟩
      · rw [moreL_yes] at hk; rw [moreL_no]; omega
      · rcases List.mem_cons.1 hk' with rfl | h'
        · exact q1
        · exact q2 k' h'

/-- A limit is one. -/
theorem limit_run {n : NetL} {m x : List Int} {p most k : Int} {seq : List Int} (h : limitL n m p most = (k, 0)) (hr : runL n m seq = (x, 0)) : k = -1 ∨ (0 ≤ p ∧ p < x.length ∧ nth x p.toNat ≤ k) := by
  unfold limitL at h
  split at h
  · rename_i h0
    split at h
    · rename_i hp
      simp only [Bool.and_eq_true, decide_eq_true_eq] at hp
      simp only [Prod.mk.injEq, and_true] at h
      obtain ⟨s, el, hT⟩ := treeL_ok (n := n) (m := m) (most := most) (l := (treeL n m most).1) (Prod.ext rfl (by simpa using h0))
      obtain ⟨j, hj, hc⟩ := hT.covers hr
      have hl := (fits_net (run_fits seq hr).2).2.1
      have := (topL_ge p.toNat (treeL n m most).1 0).2 (knotAt s j).knot (by rw [el, knotAt_get hj]; exact List.mem_map.2 ⟨s[j], List.getElem_mem hj, rfl⟩)
      rw [h, moreL_no] at this
      rcases this with q | ⟨q1, q2⟩
      · exact .inl q
      · right
        refine ⟨hp.1, by omega, ?_⟩
        have q1 : nth (knotAt s j).mark p.toNat ≠ -1 := q1
        have q2 : nth (knotAt s j).mark p.toNat ≤ k := q2
        rcases hc.2 p.toNat (by omega) with q3 | q3
        · exact absurd q3 q1
        · omega
    · simp at h
  · rename_i h0
    simp only [Prod.mk.injEq] at h
    rw [h.2] at h0
    simp at h0
theorem limit_err {n : NetL} {m : List Int} {p most : Int} (h : (limitL n m p most).2 ≠ 0) : (limitL n m p most).1 = 0 := by
  unfold limitL at h ⊢
  split
  · rename_i h0
    split
    · rename_i hp; rw [if_pos h0, if_pos hp] at h; simp at h
    · rfl
  · rfl

end Go.Proofs.Ytgedpebnipghlaa

/- Plain words for what knots hold in memory; a store into a row that the call itself has made. -/
namespace Go.Proofs.Ytgedpebnipghlaa
open Go.RowKit
set_option linter.unusedVariables false
set_option maxRecDepth 4000

def noKnotL : KnotL := ⟨0, 0, []⟩
def knotOf (l : List KnotL) (k : Nat) : KnotL := l.getD k noKnotL
theorem knotOf_map {s : List KnotX} {k : Nat} (h : k < s.length) : knotOf (s.map KnotX.knot) k = (knotAt s k).knot := by
  rw [knotOf, List.getD_eq_getElem?_getD, List.getElem?_map, knotAt, List.getD_eq_getElem?_getD, List.getElem?_eq_getElem h]; rfl
theorem knotOf_get {l : List KnotL} {k : Nat} (h : k < l.length) : knotOf l k = l[k] := by
  rw [knotOf, List.getD_eq_getElem?_getD, List.getElem?_eq_getElem h]; rfl

/-- A slice of knots: two numbers and a mark each. -/
def Knots (w : World) (v : Value) (l : List KnotL) : Prop :=
  ∃ a len cap, v = .slice a len cap ∧ l.length = len ∧ len ≤ 2513169434916 ∧ Shape a len cap ∧
    ∀ j, j < l.length → ∃ b off u, a = some ⟨b, off, none⟩ ∧ b < w.heap.size ∧ w.cell? ⟨b, off + j * 3, none⟩ = some (.int .i64 (knotOf l j).up) ∧
      w.cell? ⟨b, off + j * 3 + 1, none⟩ = some (.int .i64 (knotOf l j).tran) ∧ w.cell? ⟨b, off + j * 3 + 2, none⟩ = some u ∧ Ints w u (knotOf l j).mark

theorem Knots.below {w w' : World} {v : Value} {l : List KnotL} (h : Knots w v l) (hb : Below w.heap.size w w') : Knots w' v l := by
  obtain ⟨a, len, cap, e, hl, hm, hs, hr⟩ := h
  refine ⟨a, len, cap, e, hl, hm, hs, fun j hj => ?_⟩
  obtain ⟨b, off, u, ha, hlt, h0, h1, h2, hi⟩ := hr j hj
  exact ⟨b, off, u, ha, Nat.lt_of_lt_of_le hlt hb.size, by rw [hb.cell (p := ⟨b, _, none⟩) hlt]; exact h0, by rw [hb.cell (p := ⟨b, _, none⟩) hlt]; exact h1, by rw [hb.cell (p := ⟨b, _, none⟩) hlt]; exact h2, hi.below hb⟩
theorem Knots.at {w : World} {a : Option Addr} {len cap : Nat} {l : List KnotL} (h : Knots w (.slice a len cap) l) {k : Nat} (hk : k < len) :
    ∃ b off u, a = some ⟨b, off, none⟩ ∧ b < w.heap.size ∧ w.cell? ⟨b, off + k * 3, none⟩ = some (.int .i64 (knotOf l k).up) ∧
      w.cell? ⟨b, off + k * 3 + 1, none⟩ = some (.int .i64 (knotOf l k).tran) ∧ w.cell? ⟨b, off + k * 3 + 2, none⟩ = some u ∧ Ints w u (knotOf l k).mark := by
  obtain ⟨a', len', cap', e, hl, hm, hs, hr⟩ := h
  injection e with e1 e2 e3
  subst e1 e2 e3
  exact hr k (by omega)
theorem Knots.slice {w : World} {v : Value} {l : List KnotL} (h : Knots w v l) : ∃ a cap, v = .slice a l.length cap ∧ l.length ≤ 2513169434916 ∧ Shape a l.length cap := by
  obtain ⟨a, len, cap, e, hl, hm, hs, hr⟩ := h
  subst hl
  exact ⟨a, cap, e, hm, hs⟩
theorem Knots.nil (w : World) : Knots w (.slice none 0 0) [] := ⟨none, 0, 0, rfl, rfl, by omega, ⟨by omega, by omega, fun _ => rfl⟩, fun j hj => absurd hj (by simp)⟩

/-- What a call answers that makes a tree, or tells what is wrong. -/
def GivesK (w : World) (p : List KnotL × Int) (e : Ending) (w' : World) : Prop := ∃ r, e = .returned (.tuple #[r, .int .i64 p.2]) ∧ Knots w' r p.1 ∧ Below w.heap.size w w'
theorem givesK_of {w w' : World} {r : Value} {p : List KnotL × Int} {l : List KnotL} {c : Int} (hp : p = (l, c)) (hr : Knots w' r l) (hb : Below w.heap.size w w') : GivesK w p (.returned (.tuple #[r, .int .i64 c])) w' := by
  subst hp; exact ⟨r, rfl, hr, hb⟩

theorem setCell_blockK {w : World} {g off : Nat} {cur : Array Value} {e : TypeId} (h : w.heap[g]? = some (.cells cur e (0, 0))) (u : Value) : (w.setCell ⟨g, off, none⟩ u).heap[g]? = some (.cells (cur.setIfInBounds off u) e (0, 0)) := by
  have hlt : g < w.heap.size := (Array.getElem?_eq_some_iff.1 h).1
  have h' : w.heap[g] = .cells cur e (0, 0) := (Array.getElem?_eq_some_iff.1 h).2
  show (w.heap.modify g _)[g]? = _
  rw [Array.getElem?_eq_getElem (by simpa using hlt), Array.getElem_modify_self, h']
  rfl

/-- A store into a row that the call itself has made. -/
theorem ownsRow_set {B : Nat} {w : World} {e : TypeId} {g n cap : Nat} {xs : List Value} (h : w.ownsRow B e 1 (.slice (some ⟨g, 0, none⟩) n cap) n xs) {j : Nat} (hj : j < n) (u : Value) :
    (w.setCell ⟨g, j, none⟩ u).ownsRow B e 1 (.slice (some ⟨g, 0, none⟩) n cap) n (xs.set j u) := by
  obtain ⟨h1, h2⟩ := h
  refine ⟨by simpa using h1, ?_⟩
  rcases h2 with ⟨e1, _⟩ | ⟨g', cap', cur, e1, hg, hh, r1, r2, r3, r4⟩
  · cases e1
  · injection e1 with e2 e3 e4
    injection e2 with e2
    injection e2 with e2
    subst e2 e4
    refine .inr ⟨g, cap, cur.setIfInBounds j u, rfl, hg, setCell_blockK hh u, r1, r2, by simpa using r3, ?_⟩
    rw [Array.toList_setIfInBounds, ← r4, List.take_set]

theorem Own.put {B : Nat} {w wr : World} {g n cap : Nat} {zs : List Int} (h : Own B w wr (.slice (some ⟨g, 0, none⟩) n cap) zs) (hn : zs.length = n) {j : Nat} (hj : j < n) (x : Int) :
    Own B w (wr.setCell ⟨g, j, none⟩ (.int .i64 x)) (.slice (some ⟨g, 0, none⟩) n cap) (zs.set j x) := by
  obtain ⟨h1, h2, h3⟩ := h
  have hB : B ≤ g := (ownsRow_lt h1 (k := g) rfl).1
  have h1' := h1
  rw [hn] at h1'
  refine ⟨?_, h2.setCell (p := ⟨g, j, none⟩) hB _, by simpa [World.setCell] using h3⟩
  have := ownsRow_set h1' hj (.int .i64 x)
  rw [List.length_set, hn, List.map_set]
  exact this
theorem Own.cell {B : Nat} {w wr : World} {g n cap : Nat} {zs : List Int} (h : Own B w wr (.slice (some ⟨g, 0, none⟩) n cap) zs) (hn : zs.length = n) {j : Nat} (hj : j < n) :
    wr.cell? ⟨g, j, none⟩ = some (.int .i64 (nth zs j)) ∧ wr.frozen? ⟨g, j, none⟩ = false ∧ g < wr.heap.size := by
  have h1 := h.1
  rw [hn] at h1
  have hc := h1.cellAt j (by omega)
  obtain ⟨_, hk⟩ := h.1
  rcases hk with ⟨e1, _⟩ | ⟨g', cap', cur, e1, hg, hh, _⟩
  · cases e1
  · injection e1 with e2 e3 e4
    injection e2 with e2
    injection e2 with e2
    subst e2
    refine ⟨by rw [hc]; simp [nth, List.getD, List.getElem?_eq_getElem (show j < zs.length by omega)], by simp [World.frozen?, hh], (Array.getElem?_eq_some_iff.1 hh).1⟩

end Go.Proofs.Ytgedpebnipghlaa

/- A tree while it is built: where it lies, and what it hangs on. -/
namespace Go.Proofs.Ytgedpebnipghlaa
open Go.RowKit
set_option linter.unusedVariables false
set_option maxRecDepth 4000

def valAt (l : List Value) (j : Nat) : Value := l.getD j undef
theorem valAt_append {l r : List Value} {k : Nat} (h : k < l.length) : valAt (l ++ r) k = valAt l k := by
  rw [valAt, valAt, List.getD_eq_getElem?_getD, List.getD_eq_getElem?_getD, List.getElem?_append_left h]
theorem valAt_last (l : List Value) (x : Value) : valAt (l ++ [x]) l.length = x := by
  rw [valAt, List.getD_eq_getElem?_getD, List.getElem?_append_right (Nat.le_refl _)]; simp
theorem valAt_get {l : List Value} {k : Nat} (h : k < l.length) : l[k]? = some (valAt l k) := by
  rw [valAt, List.getD_eq_getElem?_getD, List.getElem?_eq_getElem h]; rfl
def valsAt (l : List (List Value)) (j : Nat) : List Value := l.getD j []
theorem valsAt_append {l r : List (List Value)} {k : Nat} (h : k < l.length) : valsAt (l ++ r) k = valsAt l k := by
  rw [valsAt, valsAt, List.getD_eq_getElem?_getD, List.getD_eq_getElem?_getD, List.getElem?_append_left h]
theorem valsAt_last (l : List (List Value)) (x : List Value) : valsAt (l ++ [x]) l.length = x := by
  rw [valsAt, List.getD_eq_getElem?_getD, List.getElem?_append_right (Nat.le_refl _)]; simp

/-- Three cells each. -/
def triTo (f g h : Nat → Value) : Nat → List Value
  | 0 => []
  | n + 1 => triTo f g h n ++ [f n, g n, h n]
theorem triTo_length (f g h : Nat → Value) : ∀ n, (triTo f g h n).length = n * 3
  | 0 => rfl
  | n + 1 => by rw [triTo, List.length_append, triTo_length f g h n]; simp; omega
theorem triTo_congr {f g h f' g' h' : Nat → Value} : ∀ {n : Nat}, (∀ j, j < n → f j = f' j ∧ g j = g' j ∧ h j = h' j) → triTo f g h n = triTo f' g' h' n
  | 0, _ => rfl
  | n + 1, e => by
    obtain ⟨e1, e2, e3⟩ := e n (by omega)
    rw [triTo, triTo, triTo_congr fun j hj => e j (by omega), e1, e2, e3]
theorem triTo_at (f g h : Nat → Value) : ∀ {n j : Nat}, j < n → (triTo f g h n)[j * 3]? = some (f j) ∧ (triTo f g h n)[j * 3 + 1]? = some (g j) ∧ (triTo f g h n)[j * 3 + 2]? = some (h j)
  | 0, j, hj => by omega
  | n + 1, j, hj => by
    have hl := triTo_length f g h n
    rw [triTo]
    by_cases e : j < n
    · obtain ⟨q1, q2, q3⟩ := triTo_at f g h e
      rw [List.getElem?_append_left (by omega), List.getElem?_append_left (by omega), List.getElem?_append_left (by omega)]
      exact ⟨q1, q2, q3⟩
    · have e : j = n := by omega
      subst e
      rw [List.getElem?_append_right (by omega), List.getElem?_append_right (by omega), List.getElem?_append_right (by omega), hl]
      have k1 : j * 3 - j * 3 = 0 := by omega
      have k2 : j * 3 + 1 - j * 3 = 1 := by omega
      have k3 : j * 3 + 2 - j * 3 = 2 := by omega
      rw [k1, k2, k3]
      exact ⟨rfl, rfl, rfl⟩

def knotCells (s : List KnotX) (ms : List Value) : List Value := triTo (fun j => .int .i64 (knotAt s j).up) (fun j => .int .i64 (knotAt s j).tran) (valAt ms) s.length
theorem knotCells_append (s : List KnotX) (ms : List Value) (x : KnotX) (v : Value) (hl : ms.length = s.length) : knotCells (s ++ [x]) (ms ++ [v]) = knotCells s ms ++ [.int .i64 x.up, .int .i64 x.tran, v] := by
  unfold knotCells
  rw [List.length_append]
  show triTo _ _ _ (s.length + 1) = _
  rw [triTo, knotAt_last]
  rw [triTo_congr (f' := fun j => .int .i64 (knotAt s j).up) (g' := fun j => .int .i64 (knotAt s j).tran) (h' := valAt ms) (fun j hj => by rw [knotAt_append hj, valAt_append (by omega)]; exact ⟨rfl, rfl, rfl⟩)]
  rw [← hl, valAt_last]

/-- A slice of these slices, whose elements are these values. -/
def ListsV (w : World) (v : Value) (us : List Value) (ls : List (List Int)) : Prop :=
  ∃ a len cap, v = .slice a len cap ∧ us.length = len ∧ ls.length = len ∧ Shape a len cap ∧
    ∀ j, j < len → ∃ b off, a = some ⟨b, off, none⟩ ∧ b < w.heap.size ∧ w.cell? ⟨b, off + j, none⟩ = some (valAt us j) ∧ (valAt us j).oneCell' = true ∧ Ints w (valAt us j) (markAt ls j)
theorem ListsV.lists {w : World} {v : Value} {us : List Value} {ls : List (List Int)} (h : ListsV w v us ls) (hl : ls.length ≤ 5864062014805) : Lists w v ls := by
  obtain ⟨a, len, cap, e, h1, h2, h3, h4⟩ := h
  refine ⟨a, len, cap, e, h2, by omega, h3, fun j hj => ?_⟩
  obtain ⟨b, off, q1, q2, q3, _, q4⟩ := h4 j (by omega)
  exact ⟨b, off, valAt us j, q1, q2, q3, q4⟩
theorem ListsV.nil (w : World) : ListsV w (.slice none 0 0) [] [] := ⟨none, 0, 0, rfl, rfl, rfl, ⟨by omega, by omega, fun _ => rfl⟩, fun j hj => absurd hj (by omega)⟩

/-- Apart from both rows. -/
def Off (ov lv : Value) (b : Nat) : Prop := ov.ownBlock ≠ some b ∧ lv.ownBlock ≠ some b

end Go.Proofs.Ytgedpebnipghlaa

/- A space while it is built: where it lies, and what it hangs on. -/
namespace Go.Proofs.Ytgedpebnipghlaa
open Go.RowKit
set_option linter.unusedVariables false
set_option maxRecDepth 4000

theorem Row.blocks {w w' : World} {a : Option Addr} {xs : List Int} (h : Row w a xs) (hs : w.heap.size ≤ w'.heap.size) (hk : ∀ k, k < w.heap.size → w'.heap[k]? = w.heap[k]?) : Row w' a xs := by
  intro j hj
  obtain ⟨b, off, ha, hlt, hc⟩ := h j hj
  exact ⟨b, off, ha, Nat.lt_of_lt_of_le hlt hs, by rw [World.cell?_of_block (a := ⟨b, off + j, none⟩) (hk b hlt)]; exact hc⟩
theorem ints_old {w : World} {v : Value} {xs : List Int} (h : Ints w v xs) : On (fun k => k < w.heap.size) w (fun w' => Ints w' v xs) := by
  intro w' hs hk
  obtain ⟨a, len, cap, e, hl, hm, hsh, hr⟩ := h
  exact ⟨a, len, cap, e, hl, hm, hsh, hr.blocks hs fun k hlt => hk k hlt hlt⟩

/-- The cells of arcs. -/
def arcCells (l : List ArcL) : List Value := l.flatMap fun a => [.int .i64 (a.frm : Int), .int .i64 (a.tran : Int), .int .i64 (a.dst : Int)]
theorem arcCells_length (l : List ArcL) : (arcCells l).length = l.length * 3 := by
  unfold arcCells
  induction l with
  | nil => rfl
  | cons x r ih => simp only [List.flatMap_cons, List.length_append, ih, List.length_cons, List.length_nil]; omega
theorem arcCells_append (l : List ArcL) (a : ArcL) : arcCells (l ++ [a]) = arcCells l ++ [.int .i64 (a.frm : Int), .int .i64 (a.tran : Int), .int .i64 (a.dst : Int)] := by simp [arcCells]
theorem arcCells_at (l : List ArcL) (j : Nat) (h : j < l.length) :
    (arcCells l)[j * 3]? = some (.int .i64 (l[j].frm : Int)) ∧ (arcCells l)[j * 3 + 1]? = some (.int .i64 (l[j].tran : Int)) ∧ (arcCells l)[j * 3 + 2]? = some (.int .i64 (l[j].dst : Int)) := by
  induction l generalizing j with
  | nil => simp at h
  | cons x r ih =>
    have ec : arcCells (x :: r) = .int .i64 (x.frm : Int) :: .int .i64 (x.tran : Int) :: .int .i64 (x.dst : Int) :: arcCells r := rfl
    match j, h with
    | 0, _ => exact ⟨rfl, rfl, rfl⟩
    | j + 1, h =>
      obtain ⟨q1, q2, q3⟩ := ih j (by simpa using h)
      rw [ec, show (j + 1) * 3 = j * 3 + 3 by omega]
      exact ⟨q1, q2, q3⟩

/-- What a row grows by, and a store at block x, leave. -/
theorem grown_set {x : Nat} {w wC : World} {row : Option Nat} (hg : w.grownBy wC row) (a : Addr) (ha : a.block = x) (u : Value) {k : Nat} (hlt : k < w.heap.size) (hk : k ≠ x) (hr : row ≠ some k) :
    (wC.setCell a u).heap[k]? = w.heap[k]? := by
  rw [Below.heap_setCell wC a u k (by rw [ha]; exact hk)]
  exact hg.block k hlt (fun e => hr e.symm)

end Go.Proofs.Ytgedpebnipghlaa

/- A mark's key, as the model reads it; what a map from marks to numbers holds. -/
namespace Go.Proofs.Ytgedpebnipghlaa
open Go.RowKit Go.Maps Go.WideMaps
set_option linter.unusedVariables false
set_option maxRecDepth 4000

theorem mapM_all {α β : Type} {f : α → Option β} {g : α → β} : ∀ (L : List α), (∀ x ∈ L, f x = some (g x)) → L.mapM f = some (L.map g)
  | [], _ => rfl
  | x :: r, h => by rw [List.mapM_cons, h x (by simp), mapM_all r fun y hy => h y (by simp [hy])]; rfl

theorem flatten_single {α β : Type} (f : α → β) (l : List α) : (l.map fun i => [f i]).flatten = l.map f := by
  induction l with
  | nil => rfl
  | cons x r ih => simp [ih]

/-- A number that a word holds. -/
def inWord (z : Int) : Prop := -9223372036854775808 ≤ z ∧ z ≤ 9223372036854775807

theorem wf_word {z : Int} (h : (Lit.int .i64 z).wf = true) : inWord z := by
  simp [Lit.wf, IntKind.min, IntKind.max, IntKind.signed, IntKind.bits] at h
  unfold inWord
  omega

/-- What a mark's key is. -/
def keyLit (xs : List Int) : Lit := .string (keyBytes ((padL xs).map (Lit.int .i64)))

theorem right_word {xs : List Int} (h : rightL xs = true) : ∀ z ∈ xs, inWord z := by
  intro z hz
  obtain ⟨j, hj, e⟩ := List.getElem_of_mem hz
  have := okTok_nth h j
  have e2 : nth xs j = z := by simp [nth, List.getD, List.getElem?_eq_getElem hj, e]
  rw [e2] at this
  unfold inWord
  omega

/-- What the map from marks to numbers says, of marks of P places. -/
structure Says (P : Nat) (ms : List (List Int)) (D : DataW Unit) : Prop where
  yes : ∀ x g, x.length = P → (∀ z ∈ x, inWord z) → findM ms x = some g → has D (keyLit x) = true ∧ D.atKey (keyLit x) (.lit (.int .i64 0)) = .lit (.int .i64 (g : Int))
  no : ∀ x, x.length = P → (∀ z ∈ x, inWord z) → findM ms x = none → has D (keyLit x) = false

theorem says_nil (P : Nat) : Says P [] (.map []) := ⟨fun x g _ _ h => by simp [findM] at h, fun x _ _ _ => rfl⟩

theorem findM_append {ms : List (List Int)} {x z : List Int} : findM (ms ++ [z]) x = match findM ms x with | some g => some g | none => if z = x then some ms.length else none := by
  unfold findM
  rw [List.findIdx?_append]
  cases h : ms.findIdx? (· == x) with
  | some g => rfl
  | none =>
    by_cases e : z = x
    · subst e; simp [List.findIdx?_cons]
    · have e2 : (z == x) = false := by simpa using e
      simp [List.findIdx?_cons, e]

end Go.Proofs.Ytgedpebnipghlaa

/- A search of package reach while it goes on: where it lies, and what it hangs on. -/
namespace Go.Proofs.Ytgedpebnipghlaa
open Go.RowKit Go.Maps
set_option linter.unusedVariables false
set_option maxRecDepth 4000

/-- All that hangs on blocks outside S still does, outside S', and reads as it did. -/
structure Keeps (w : World) (S : Nat → Prop) (w' : World) (S' : Nat → Prop) : Prop where
  size : w.heap.size ≤ w'.heap.size
  block : ∀ k, k < w.heap.size → ¬ S k → w'.heap[k]? = w.heap[k]? ∧ ¬ S' k

theorem Keeps.on {w w' : World} {S S' : Nat → Prop} {R : World → Prop} (h : Keeps w S w' S') (hR : On (fun k => ¬ S k) w R) : On (fun k => ¬ S' k) w' R :=
  fun w2 hs hk => hR w2 (Nat.le_trans h.size hs) fun k hlt hS => (hk k (Nat.lt_of_lt_of_le hlt h.1) (h.2 k hlt hS).2).trans (h.2 k hlt hS).1
theorem Keeps.onE {w w' : World} {S S' E : Nat → Prop} {R : World → Prop} (h : Keeps w S w' S') (hR : On (fun k => E k ∧ ¬ S k) w R) : On (fun k => E k ∧ ¬ S' k) w' R :=
  fun w2 hs hk => hR w2 (Nat.le_trans h.size hs) fun k hlt hS => (hk k (Nat.lt_of_lt_of_le hlt h.size) ⟨hS.1, (h.block k hlt hS.2).2⟩).trans (h.block k hlt hS.2).1
theorem Keeps.refl (w : World) (S : Nat → Prop) : Keeps w S w S := ⟨Nat.le_refl _, fun k _ h => ⟨rfl, h⟩⟩
theorem Keeps.trans {w w1 w2 : World} {S S1 S2 : Nat → Prop} (h : Keeps w S w1 S1) (g : Keeps w1 S1 w2 S2) : Keeps w S w2 S2 :=
  ⟨Nat.le_trans h.1 g.1, fun k hlt hS => ⟨(g.2 k (Nat.lt_of_lt_of_le hlt h.1) (h.2 k hlt hS).2).1.trans (h.2 k hlt hS).1, (g.2 k (Nat.lt_of_lt_of_le hlt h.1) (h.2 k hlt hS).2).2⟩⟩
theorem Keeps.below {w w' : World} (hb : Below w.heap.size w w') (S : Nat → Prop) : Keeps w S w' S := ⟨hb.size, fun k hlt h => ⟨hb.block k hlt, h⟩⟩

/-- The blocks that a search writes. -/
def mineS (x mb : Nat) (mv av bv : Value) (k : Nat) : Prop := k = x ∨ k = mb ∨ mv.ownBlock = some k ∨ av.ownBlock = some k ∨ bv.ownBlock = some k

theorem setCell_block {w : World} {x i : Nat} {cs : Array Value} {t : TypeId} {fr : Nat × Nat} (h : w.heap[x]? = some (.cells cs t fr)) (u : Value) :
    (w.setCell ⟨x, i, none⟩ u).heap[x]? = some (.cells (cs.setIfInBounds i u) t fr) := by
  rw [setCell_eq_setRow w x i cs t fr u h]
  exact setRow_heap w x cs _ t fr h

/-- A row grows, and the cell that holds it is written. -/
theorem grow_at {x i : Nat} {wr wC : World} {v v' : Value} {cs : Array Value} {t : TypeId} (hx : x < wr.heap.size) (hg : wr.grownBy wC v.ownBlock) (hv : v.ownBlock ≠ some x) (hc : wr.heap[x]? = some (.cells cs t (0, 0))) :
    (wC.setCell ⟨x, i, none⟩ v').heap[x]? = some (.cells (cs.setIfInBounds i v') t (0, 0)) ∧ wr.heap.size ≤ (wC.setCell ⟨x, i, none⟩ v').heap.size ∧
      ∀ k, k < wr.heap.size → k ≠ x → v.ownBlock ≠ some k → (wC.setCell ⟨x, i, none⟩ v').heap[k]? = wr.heap[k]? := by
  refine ⟨setCell_block ((hg.block x hx fun e => hv e.symm).trans hc) v', Nat.le_trans hg.size (by simp [World.setCell]), fun k hlt hk hr => ?_⟩
  exact grown_set hg ⟨x, i, none⟩ rfl v' hlt hk hr

section
variable {A x mb B : Nat} {M : Int} {W wr : World} {ms : List (List Int)} {ar bys : List ArcL} {c : Nat} {D : DataW Unit} {mv av bv : Value} {us : List Value}

/-- A block that is none of its own stands while one of its rows grows. -/
theorem Keeps.box3 {w w' : World} {S S' : Nat → Prop} (h : Keeps w S w' S') {b : Nat} (hb : ¬ S b) {u0 u1 u2 : Value} (hx : Box3 w b u0 u1 u2) : Box3 w' b u0 u1 u2 := by
  obtain ⟨y0, y1, y2, y3⟩ := hx
  have hq := (h.2 b y0 hb).1
  exact ⟨Nat.lt_of_lt_of_le y0 h.1, (World.cell?_of_block (a := ⟨b, 0, none⟩) hq).trans y1, (World.cell?_of_block (a := ⟨b, 1, none⟩) hq).trans y2, (World.cell?_of_block (a := ⟨b, 2, none⟩) hq).trans y3⟩
theorem Keeps.box2 {w w' : World} {S S' : Nat → Prop} (h : Keeps w S w' S') {b : Nat} (hb : ¬ S b) {u0 u1 : Value} (hx : Box2 w b u0 u1) : Box2 w' b u0 u1 := by
  obtain ⟨y0, y1, y2⟩ := hx
  have hq := (h.2 b y0 hb).1
  exact ⟨Nat.lt_of_lt_of_le y0 h.1, (World.cell?_of_block (a := ⟨b, 0, none⟩) hq).trans y1, (World.cell?_of_block (a := ⟨b, 1, none⟩) hq).trans y2⟩

end

end Go.Proofs.Ytgedpebnipghlaa

/- Plain words for nets with a beginning and an end. -/
namespace Go.Proofs.Ytgedpebnipghlaa
set_option linter.unusedVariables false
set_option maxRecDepth 4000

/-- One token, at one place. -/
def startL (P i : Int) : List Int := mapTo (min P 16).toNat fun p => if (p : Int) = i then 1 else 0

theorem start_length (P i : Int) : (startL P i).length = (min P 16).toNat := mapTo_length _ _

theorem start_at (P i : Int) (p : Nat) (hp : p < (min P 16).toNat) : nth (startL P i) p = if (p : Int) = i then 1 else 0 := mapTo_nth _ _ _ hp

theorem start_bounds (P i : Int) (p : Nat) : 0 ≤ nth (startL P i) p ∧ nth (startL P i) p ≤ 1 := by
  by_cases hp : p < (min P 16).toNat
  · rw [start_at P i p hp]
    split <;> omega
  · rw [nth_past _ _ (by rw [start_length]; omega)]; omega

theorem start_right (P i : Int) : rightL (startL P i) = true := (rightL_iff _).2 fun j => by have := start_bounds P i j; omega

/-- Which places are behind a place. -/
def WayP (n : NetL) (f p : Nat) : Prop := ∀ Q : Nat → Prop, Q f → (∀ k a b, k < n.trans.length → Q a → nth (tranAt n.trans k).pre a ≠ 0 → nth (tranAt n.trans k).post b ≠ 0 → Q b) → Q p
/-- Which transitions are. -/
def WayT (n : NetL) (f k : Nat) : Prop := ∃ p, WayP n f p ∧ nth (tranAt n.trans k).pre p ≠ 0

theorem WayP.here (n : NetL) (f : Nat) : WayP n f f := fun Q h _ => h
theorem WayP.step {n : NetL} {f k a b : Nat} (h : WayP n f a) (hk : k < n.trans.length) (h1 : nth (tranAt n.trans k).pre a ≠ 0) (h2 : nth (tranAt n.trans k).post b ≠ 0) : WayP n f b :=
  fun Q q1 q2 => q2 k a b hk (h Q q1 q2) h1 h2

structure ShapeOk (n : NetL) (i o : Int) : Prop where
  ok : netOk n = true
  ne : i ≠ o
  i0 : 0 ≤ i
  i1 : i < n.places
  o0 : 0 ≤ o
  o1 : o < n.places
  p1 : ∀ p : Nat, (p : Int) < n.places → WayP n i.toNat p
  p2 : ∀ p : Nat, (p : Int) < n.places → WayP (turnL n) o.toNat p
  t1 : ∀ k, k < n.trans.length → WayT n i.toNat k
  t2 : ∀ k, k < n.trans.length → WayT (turnL n) o.toNat k
  put : ∀ k, k < n.trans.length → nth (tranAt n.trans k).post i.toNat = 0
  take : ∀ k, k < n.trans.length → nth (tranAt n.trans k).pre o.toNat = 0

/-- What is wrong. -/
structure Judged (n : NetL) (i o e : Int) : Prop where
  bad : netOk n = false → e = 2
  form : netOk n = true → ¬ ShapeOk n i o → e = 1
  right : ShapeOk n i o → e = 0

theorem Judged.unique {n : NetL} {i o e f : Int} (h : Judged n i o e) (k : Judged n i o f) : e = f := by
  cases hn : netOk n with
  | false => rw [h.bad hn, k.bad hn]
  | true =>
    by_cases hs : ShapeOk n i o
    · rw [h.right hs, k.right hs]
    · rw [h.form hn hs, k.form hn hs]

theorem Judged.of_bad {n : NetL} {i o : Int} (h : netOk n = false) : Judged n i o 2 := ⟨fun _ => rfl, fun q => (by rw [h] at q; cases q), fun q => (by have := q.ok; rw [h] at this; cases this)⟩
theorem Judged.of_form {n : NetL} {i o : Int} (h : netOk n = true) (hs : ¬ ShapeOk n i o) : Judged n i o 1 := ⟨fun q => (by rw [h] at q; cases q), fun _ _ => rfl, fun q => absurd q hs⟩
theorem Judged.of_right {n : NetL} {i o : Int} (hs : ShapeOk n i o) : Judged n i o 0 := ⟨fun q => (by have := hs.ok; rw [q] at this; cases this), fun _ q => absurd hs q, fun _ => rfl⟩
theorem Judged.zero {n : NetL} {i o : Int} (h : Judged n i o 0) : ShapeOk n i o := by
  cases hn : netOk n with
  | false => have := h.bad hn; omega
  | true =>
    by_cases hs : ShapeOk n i o
    · exact hs
    · have := h.form hn hs; omega
theorem Judged.not_zero {n : NetL} {i o e : Int} (h : Judged n i o e) (he : e ≠ 0) : ¬ ShapeOk n i o := fun hs => he (h.right hs)

theorem turn_back (n : NetL) : turnL (turnL n) = n := by
  unfold turnL
  simp only [List.map_map]
  cases n with
  | mk P ts =>
    congr 1
    have : (turnT ∘ turnT) = id := by funext t; exact turn_turn t
    rw [this, List.map_id]

theorem turn_ok_iff (n : NetL) : netOk (turnL n) = netOk n := by
  cases h : netOk n with
  | true => exact turn_ok n h
  | false =>
    cases h2 : netOk (turnL n) with
    | false => rfl
    | true =>
      have h3 := turn_ok _ h2
      rw [turn_back, h] at h3
      cases h3

theorem turn_count (n : NetL) : (turnL n).trans.length = n.trans.length := by simp [turnL]

theorem turn_tran (n : NetL) {k : Nat} (hk : k < n.trans.length) : tranAt (turnL n).trans k = turnT (tranAt n.trans k) := turn_at _ _ hk

/-- The other way round it has one, too. -/
theorem ShapeOk.turned {n : NetL} {i o : Int} (h : ShapeOk n i o) : ShapeOk (turnL n) o i where
  ok := by rw [turn_ok_iff]; exact h.ok
  ne := fun e => h.ne e.symm
  i0 := h.o0
  i1 := h.o1
  o0 := h.i0
  o1 := h.i1
  p1 := h.p2
  p2 := by rw [turn_back]; exact h.p1
  t1 := by rw [turn_count]; exact h.t2
  t2 := by rw [turn_back, turn_count]; exact h.t1
  put := by
    rw [turn_count]
    intro k hk
    rw [turn_tran n hk]
    exact h.take k hk
  take := by
    rw [turn_count]
    intro k hk
    rw [turn_tran n hk]
    exact h.put k hk

theorem Judged.turned {n : NetL} {i o e : Int} (h : Judged n i o e) : Judged (turnL n) o i e where
  bad := by rw [turn_ok_iff]; exact h.bad
  form := by
    rw [turn_ok_iff]
    exact fun q hs => h.form q fun k => hs k.turned
  right := fun hs => h.right (by have := hs.turned; rwa [turn_back] at this)

/-- With one more transition, from the end to the beginning. -/
def closeL (n : NetL) (i o : Int) : NetL := ⟨n.places, n.trans ++ [⟨0, startL n.places o, startL n.places i⟩]⟩

/-- What Close answers. -/
structure Closed (n : NetL) (i o : Int) (c : NetL) (e : Int) : Prop where
  right : ShapeOk n i o → n.trans.length < 24 → e = 0 ∧ c = closeL n i o
  full : ShapeOk n i o → ¬ n.trans.length < 24 → e = 4 ∧ c = ⟨0, []⟩
  bad : ¬ ShapeOk n i o → Judged n i o e ∧ c = ⟨0, []⟩

theorem Closed.unique {n c d : NetL} {i o e f : Int} (h : Closed n i o c e) (k : Closed n i o d f) : c = d ∧ e = f := by
  by_cases hs : ShapeOk n i o
  · by_cases hl : n.trans.length < 24
    · obtain ⟨h1, h2⟩ := h.right hs hl
      obtain ⟨k1, k2⟩ := k.right hs hl
      exact ⟨by rw [h2, k2], by rw [h1, k1]⟩
    · obtain ⟨h1, h2⟩ := h.full hs hl
      obtain ⟨k1, k2⟩ := k.full hs hl
      exact ⟨by rw [h2, k2], by rw [h1, k1]⟩
  · obtain ⟨h1, h2⟩ := h.bad hs
    obtain ⟨k1, k2⟩ := k.bad hs
    exact ⟨by rw [h2, k2], h1.unique k1⟩

theorem Closed.zero {n c : NetL} {i o : Int} (h : Closed n i o c 0) : ShapeOk n i o ∧ n.trans.length < 24 ∧ c = closeL n i o := by
  by_cases hs : ShapeOk n i o
  · by_cases hl : n.trans.length < 24
    · exact ⟨hs, hl, (h.right hs hl).2⟩
    · have := (h.full hs hl).1; omega
  · obtain ⟨h1, h2⟩ := h.bad hs
    exact absurd h1.zero hs

theorem Closed.none {n c : NetL} {i o e : Int} (h : Closed n i o c e) (he : e ≠ 0) : c = ⟨0, []⟩ := by
  by_cases hs : ShapeOk n i o
  · by_cases hl : n.trans.length < 24
    · exact absurd (h.right hs hl).1 he
    · exact (h.full hs hl).2
  · exact (h.bad hs).2

theorem head_of {n : NetL} (h : netOk n = true) : 0 ≤ n.places ∧ n.places ≤ 16 ∧ n.trans.length ≤ 24 := by
  simp only [netOk, headOk, Bool.and_eq_true, decide_eq_true_eq] at h
  exact ⟨h.1.1.1, h.1.1.2, h.1.2⟩

theorem start_len {n : NetL} (h : netOk n = true) (i : Int) : ((startL n.places i).length : Int) = n.places := by
  obtain ⟨h0, h1, _⟩ := head_of h
  rw [start_length]; omega

theorem start_fits {n : NetL} (h : netOk n = true) (i : Int) : fitsL n (startL n.places i) = true := fits_mk h (start_len h i) (start_right _ _)

theorem mem_nth {xs : List Int} {x : Int} (h : x ∈ xs) : ∃ j, j < xs.length ∧ nth xs j = x := by
  obtain ⟨j, hj, e⟩ := List.getElem_of_mem h
  exact ⟨j, hj, by simp [nth, List.getD, List.getElem?_eq_getElem hj, e]⟩

theorem start_tran {n : NetL} (h : netOk n = true) (i o : Int) : tranOk n.places ⟨0, startL n.places o, startL n.places i⟩ = true := by
  have l1 := start_len h o
  have l2 := start_len h i
  simp only [tranOk, tranHead, Bool.and_eq_true, beq_iff_eq, decide_eq_true_eq, List.all_eq_true, List.mem_append]
  refine ⟨⟨⟨⟨by omega, by omega⟩, l1⟩, l2⟩, ?_⟩
  rintro x (hx | hx)
  all_goals
    obtain ⟨j, _, rfl⟩ := mem_nth hx
    simp only [weightOk, Bool.and_eq_true, decide_eq_true_eq]
  · have := start_bounds n.places o j; omega
  · have := start_bounds n.places i j; omega

theorem close_ok {n : NetL} (h : netOk n = true) (hl : n.trans.length < 24) (i o : Int) : netOk (closeL n i o) = true := by
  obtain ⟨h0, h1, _⟩ := head_of h
  have hs := start_tran h i o
  simp only [netOk, Bool.and_eq_true] at h
  simp only [netOk, headOk, closeL, Bool.and_eq_true, List.length_append, List.length_cons, List.length_nil, List.all_append, List.all_cons, List.all_nil]
  exact ⟨⟨⟨decide_eq_true h0, decide_eq_true h1⟩, decide_eq_true (by omega)⟩, h.2, hs, trivial⟩

theorem close_count (n : NetL) (i o : Int) : (closeL n i o).trans.length = n.trans.length + 1 := by simp [closeL]

theorem close_at (n : NetL) (i o : Int) {k : Nat} (hk : k < n.trans.length) : tranAt (closeL n i o).trans k = tranAt n.trans k := by
  unfold closeL tranAt List.getD
  simp [List.getElem?_append, hk]

theorem close_last (n : NetL) (i o : Int) : tranAt (closeL n i o).trans n.trans.length = ⟨0, startL n.places o, startL n.places i⟩ := by
  unfold closeL tranAt List.getD
  simp

theorem close_fits {n : NetL} (h : netOk n = true) (hl : n.trans.length < 24) (i o : Int) (m : List Int) : fitsL (closeL n i o) m = fitsL n m := by
  unfold fitsL
  rw [close_ok h hl, h]
  rfl

theorem close_fire {n : NetL} (h : netOk n = true) (hl : n.trans.length < 24) (i o : Int) (m : List Int) {t : Int} (ht : t ≠ n.trans.length) : fireL (closeL n i o) m t = fireL n m t := by
  unfold fireL
  rw [close_fits h hl, close_count]
  have e : decide (t < ((n.trans.length + 1 : Nat) : Int)) = decide (t < (n.trans.length : Int)) := by rw [decide_eq_decide]; omega
  rw [e]
  by_cases q : 0 ≤ t ∧ t < n.trans.length
  · rw [close_at n i o (show t.toNat < n.trans.length by omega)]
  · have f : (decide (0 ≤ t) && decide (t < (n.trans.length : Int))) = false := by
      rw [Bool.and_eq_false_iff, decide_eq_false_iff_not, decide_eq_false_iff_not]
      omega
    rw [f]
    simp

theorem close_run {n : NetL} (h : netOk n = true) (hl : n.trans.length < 24) (i o : Int) (seq : List Int) : ∀ (m : List Int), (n.trans.length : Int) ∉ seq → runL (closeL n i o) m seq = runL n m seq := by
  induction seq with
  | nil => intro m _; unfold runL; rw [close_fits h hl]
  | cons t ts ih =>
    intro m hm
    simp only [List.mem_cons, not_or] at hm
    rw [runL_cons, runL_cons, close_fits h hl, close_fire h hl i o m (fun e => hm.1 e.symm), ih _ hm.2]

/-- From the end the beginning is come to by one firing. -/
theorem close_round {n : NetL} (h : netOk n = true) (hl : n.trans.length < 24) (i o : Int) : fireL (closeL n i o) (startL n.places o) (n.trans.length : Nat) = (startL n.places i, 0) := by
  have hk : n.trans.length < (closeL n i o).trans.length := by rw [close_count]; omega
  have e : addL (subL (startL n.places o) (startL n.places o)) (startL n.places i) = startL n.places i := by
    refine eq_of_at ?_ fun j => ?_
    · rw [add_length, sub_length]
      simp only [start_length]
      omega
    · rw [add_at, sub_at]; omega
  have hf : fitsL (closeL n i o) (startL n.places o) = true := by rw [close_fits h hl]; exact start_fits h o
  have := fire_mk hk hf (by rw [close_last]; exact covers_self _) (by rw [close_last]; simp only; rw [e]; exact start_right _ _)
  rw [this, close_last]
  simp only
  rw [e]

/-- What was closed has no beginning. -/
theorem close_form {n : NetL} {i o : Int} (hs : ShapeOk n i o) (hl : n.trans.length < 24) : ¬ ShapeOk (closeL n i o) i o := by
  intro q
  have h1 := q.put n.trans.length (by rw [close_count]; omega)
  rw [close_last] at h1
  simp only at h1
  obtain ⟨h0, h16, _⟩ := head_of hs.ok
  have := hs.i0
  have := hs.i1
  rw [start_at n.places i i.toNat (by omega), if_pos (by omega)] at h1
  omega

theorem close_same (n : NetL) (i o : Int) : (closeL n i o).trans.take n.trans.length = n.trans := by simp [closeL]

/-! ### at the end nothing goes on -/
theorem end_none {n : NetL} {i o : Int} (hs : ShapeOk n i o) : canTo n (startL n.places o) n.trans.length = [] := by
  rw [List.eq_nil_iff_forall_not_mem]
  intro t ht
  obtain ⟨k, rfl, hk, hc⟩ := (can_mem n _ _ _).1 ht
  obtain ⟨p, _, hp⟩ := hs.t1 k hk
  have hcp := (coversL_iff _ _).1 hc p
  have hpo : (p : Int) ≠ o := fun e => hp (by have := hs.take k hk; rw [← e, Int.toNat_natCast] at this; exact this)
  have hb := (okTok_nth (tran_right (net_tran hs.ok hk)).1 p).1
  have : nth (startL n.places o) p = 0 := by
    by_cases q : p < (min n.places 16).toNat
    · rw [start_at _ _ _ q, if_neg hpo]
    · exact nth_past _ _ (by rw [start_length]; omega)
  omega

/-- Nothing comes to the beginning again. -/
theorem run_low {n : NetL} {i o : Int} (hs : ShapeOk n i o) (seq : List Int) : ∀ {m x : List Int}, runL n m seq = (x, 0) → nth m i.toNat = 0 → nth x i.toNat = 0 := by
  induction seq with
  | nil => intro m x h h0; obtain ⟨_, rfl⟩ := run_nil.1 h; exact h0
  | cons t ts ih =>
    intro m x h h0
    obtain ⟨y, h1, h2⟩ := run_cons.1 h
    refine ih h2 ?_
    obtain ⟨k, rfl, hk, hf, hc, hr, rfl⟩ := fire_ok h1
    have h3 := (coversL_iff _ _).1 hc i.toNat
    have h4 := (okTok_nth (tran_right (net_tran hs.ok hk)).1 i.toNat).1
    rw [add_at, sub_at, hs.put k hk]
    omega

theorem run_gone {n : NetL} {i o : Int} (hs : ShapeOk n i o) {seq x : List Int} (h : runL n (startL n.places i) seq = (x, 0)) (h0 : seq ≠ []) : nth x i.toNat = 0 := by
  cases seq with
  | nil => exact absurd rfl h0
  | cons t ts =>
    obtain ⟨y, h1, h2⟩ := run_cons.1 h
    refine run_low hs ts h2 ?_
    obtain ⟨k, rfl, hk, hf, hc, hr, rfl⟩ := fire_ok h1
    obtain ⟨p, _, hp⟩ := hs.t1 k hk
    have hcp := (coversL_iff _ _).1 hc p
    have hb := (okTok_nth (tran_right (net_tran hs.ok hk)).1 p).1
    have hsb := start_bounds n.places i p
    have hpi : (p : Int) = i := by
      by_cases q : p < (min n.places 16).toNat
      · rw [start_at _ _ _ q] at hcp
        by_cases e : (p : Int) = i
        · exact e
        · rw [if_neg e] at hcp; omega
      · rw [nth_past (startL n.places i) p (by rw [start_length]; omega)] at hcp; omega
    have : i.toNat = p := by omega
    rw [add_at, sub_at, hs.put k hk, this]
    omega

end Go.Proofs.Ytgedpebnipghlaa

/- Plain words for what can always be done again. -/
namespace Go.Proofs.Ytgedpebnipghlaa
set_option linter.unusedVariables false
set_option maxRecDepth 4000

/-- Marks, and arcs between whatever numbers. -/
structure SpaceZ where
  marks : List (List Int)
  arcs : List (Int × Int × Int)

def rightS (s : SpaceZ) : Bool := s.arcs.all fun a => decide (0 ≤ a.1) && decide (a.1 < s.marks.length) && decide (0 ≤ a.2.2) && decide (a.2.2 < s.marks.length)
def Comes (s : SpaceZ) (k j : Int) : Prop := ∀ P : Int → Prop, P k → (∀ a : Int × Int × Int, P a.1 → a ∈ s.arcs → P a.2.2) → P j
theorem Comes.here {s : SpaceZ} (k : Int) : Comes s k k := fun _ h _ => h
theorem Comes.go {s : SpaceZ} {k : Int} {a : Int × Int × Int} (h : Comes s k a.1) (ha : a ∈ s.arcs) : Comes s k a.2.2 := fun P h0 h1 => h1 a (h P h0 h1) ha
theorem Comes.ind {s : SpaceZ} {k : Int} {motive : (j : Int) → Comes s k j → Prop} (here : motive k (Comes.here k)) (go : ∀ {a : Int × Int × Int} (h : Comes s k a.1) (ha : a ∈ s.arcs), motive a.1 h → motive a.2.2 (Comes.go h ha)) {j : Int} (h : Comes s k j) : motive j h := by
  obtain ⟨h', q⟩ := h (fun j => ∃ h : Comes s k j, motive j h) ⟨Comes.here k, here⟩ (fun a ⟨hx, qx⟩ ha => ⟨Comes.go hx ha, go hx ha qx⟩)
  exact q
def deadL (s : SpaceZ) (T : Int) : List Int := (rangeL (min T 24).toNat).filter fun t => s.arcs.all fun a => a.2.1 != t
def stuckL (s : SpaceZ) : List Int := (rangeL s.marks.length).filter fun k => s.arcs.all fun a => a.1 != k
def boundM (n : Int) (m : List Int) : Int := if rightL m then m.foldl max n else n
def boundL (s : SpaceZ) : Int := s.marks.foldl boundM 0
structure IsLive (s : SpaceZ) (T : Int) (xs : List Int) : Prop where
  up : xs.Pairwise (· < ·)
  mem : ∀ t, t ∈ xs ↔ rightS s = true ∧ 0 ≤ t ∧ t < min T 24 ∧ ∀ k : Int, 0 ≤ k → k < s.marks.length → ∃ a ∈ s.arcs, a.2.1 = t ∧ Comes s k a.1
structure IsHome (s : SpaceZ) (xs : List Int) : Prop where
  up : xs.Pairwise (· < ·)
  mem : ∀ k, k ∈ xs ↔ rightS s = true ∧ 0 ≤ k ∧ k < s.marks.length ∧ ∀ i : Int, 0 ≤ i → i < s.marks.length → Comes s i k

theorem rightS_iff {s : SpaceZ} : rightS s = true ↔ ∀ a ∈ s.arcs, 0 ≤ a.1 ∧ a.1 < s.marks.length ∧ 0 ≤ a.2.2 ∧ a.2.2 < s.marks.length := by
  unfold rightS
  simp only [List.all_eq_true, Bool.and_eq_true, decide_eq_true_eq, and_assoc]
theorem mem_dead {s : SpaceZ} {T t : Int} : t ∈ deadL s T ↔ 0 ≤ t ∧ t < min T 24 ∧ ∀ a ∈ s.arcs, a.2.1 ≠ t := by
  unfold deadL
  rw [List.mem_filter, mem_range]
  simp only [List.all_eq_true, bne_iff_ne]
  constructor
  · rintro ⟨h1, h2⟩; exact ⟨by omega, by omega, h2⟩
  · rintro ⟨h1, h2, h3⟩; exact ⟨by omega, h3⟩
theorem mem_stuck {s : SpaceZ} {k : Int} : k ∈ stuckL s ↔ 0 ≤ k ∧ k < s.marks.length ∧ ∀ a ∈ s.arcs, a.1 ≠ k := by
  unfold stuckL
  rw [List.mem_filter, mem_range]
  simp only [List.all_eq_true, bne_iff_ne, and_assoc]
theorem dead_up (s : SpaceZ) (T : Int) : (deadL s T).Pairwise (· < ·) := (range_sorted _).sublist List.filter_sublist
theorem stuck_up (s : SpaceZ) : (stuckL s).Pairwise (· < ·) := (range_sorted _).sublist List.filter_sublist

/-- Who is stuck goes nowhere. -/
theorem stuck_only {s : SpaceZ} {k j : Int} (h : k ∈ stuckL s) (hc : Comes s k j) : j = k := by
  induction hc using Comes.ind with
  | here => rfl
  | go h1 h2 ih => exact absurd ih ((mem_stuck.1 h).2.2 _ h2)

theorem up_one {xs : List Int} {k : Int} (hx : xs.Pairwise (· < ·)) (h : ∀ t, t ∈ xs ↔ t = k) : xs = [k] :=
  up_unique hx (List.pairwise_singleton _ _) fun t => by rw [h]; simp
theorem up_none {xs : List Int} (h : ∀ t, ¬ t ∈ xs) : xs = [] := List.eq_nil_iff_forall_not_mem.2 h

theorem stuck_live {s : SpaceZ} {T k : Int} {xs : List Int} (hk : k ∈ stuckL s) (h : IsLive s T xs) : xs = [] := by
  refine up_none fun t ht => ?_
  obtain ⟨_, _, _, hall⟩ := (h.mem t).1 ht
  obtain ⟨h1, h2, h3⟩ := mem_stuck.1 hk
  obtain ⟨a, ha, _, hc⟩ := hall k h1 h2
  exact h3 a ha (stuck_only hk hc)
theorem stuck_home {s : SpaceZ} {k : Int} {hs : List Int} (hk : k ∈ stuckL s) (h : IsHome s hs) (hh : k ∈ hs) : hs = [k] ∧ stuckL s = [k] := by
  obtain ⟨_, k1, k2, hall⟩ := (h.mem k).1 hh
  constructor
  · refine up_one h.up fun t => ⟨fun ht => ?_, fun e => by rw [e]; exact hh⟩
    obtain ⟨_, _, _, ht4⟩ := (h.mem t).1 ht
    exact stuck_only hk (ht4 k k1 k2)
  · refine up_one (stuck_up s) fun t => ⟨fun ht => ?_, fun e => by rw [e]; exact hk⟩
    obtain ⟨t1, t2, _⟩ := mem_stuck.1 ht
    exact (stuck_only ht (hall t t1 t2)).symm
theorem wrong_live {s : SpaceZ} {T : Int} {xs : List Int} (hr : rightS s = false) (h : IsLive s T xs) : xs = [] :=
  up_none fun t ht => by have := ((h.mem t).1 ht).1; rw [hr] at this; cases this
theorem wrong_home {s : SpaceZ} {xs : List Int} (hr : rightS s = false) (h : IsHome s xs) : xs = [] :=
  up_none fun t ht => by have := ((h.mem t).1 ht).1; rw [hr] at this; cases this

/-! ### spaces that are found -/
def toZ (s : SpaceL) : SpaceZ := ⟨s.marks, s.arcs.map arcZ⟩

theorem mem_arcZ {s : SpaceL} {a : Int × Int × Int} : a ∈ (toZ s).arcs ↔ ∃ b ∈ s.arcs, a = arcZ b := by
  unfold toZ
  simp only [List.mem_map]
  constructor
  · rintro ⟨b, h1, h2⟩; exact ⟨b, h1, h2.symm⟩
  · rintro ⟨b, h1, h2⟩; exact ⟨b, h1, h2.symm⟩

theorem Whole.sound {n : NetL} {m : List Int} {s : SpaceL} (h : Whole n m s) : ∀ a ∈ s.arcs, a.frm < s.marks.length ∧ a.dst < s.marks.length ∧ a.tran < n.trans.length ∧ fireL n (markAt s.marks a.frm) a.tran = (markAt s.marks a.dst, 0) := by
  obtain ⟨most, k, hF, hk⟩ := h
  intro a ha
  obtain ⟨h1, h2, h3, _, h5⟩ := hF.sound a ha
  exact ⟨h1, h2, h3, h5⟩
theorem Whole.right {n : NetL} {m : List Int} {s : SpaceL} (h : Whole n m s) : rightS (toZ s) = true := by
  refine rightS_iff.2 fun a ha => ?_
  obtain ⟨b, hb, rfl⟩ := mem_arcZ.1 ha
  obtain ⟨h1, h2, _⟩ := h.sound b hb
  simp only [arcZ, toZ]
  omega

/-- One comes by arcs just where a run leads. -/
theorem Whole.comes_run {n : NetL} {m : List Int} {s : SpaceL} (h : Whole n m s) {i : Nat} (hi : i < s.marks.length) {y : Int} (hc : Comes (toZ s) i y) :
    ∃ j : Nat, y = j ∧ j < s.marks.length ∧ ∃ seq, runL n (markAt s.marks i) seq = (markAt s.marks j, 0) := by
  have hfit : ∀ g, g < s.marks.length → fitsL n (markAt s.marks g) = true := by obtain ⟨most, k, hF, hk⟩ := h; exact fun g hg => hF.fits _ (markAt_mem hg)
  have key : ∀ {x y : Int}, Comes (toZ s) x y → x = (i : Int) → ∃ j : Nat, y = j ∧ j < s.marks.length ∧ ∃ seq, runL n (markAt s.marks i) seq = (markAt s.marks j, 0) := by
    intro x y hc
    induction hc using Comes.ind with
    | here => intro e; subst e; exact ⟨i, rfl, hi, [], run_nil.2 ⟨hfit i hi, rfl⟩⟩
    | go h1 h2 ih =>
      intro e
      obtain ⟨j, ej, hj, seq, hs⟩ := ih e
      obtain ⟨b, hb, rfl⟩ := mem_arcZ.1 h2
      obtain ⟨b1, b2, b3, b4⟩ := h.sound b hb
      simp only [arcZ] at ej ⊢
      obtain rfl : b.frm = j := by omega
      refine ⟨b.dst, rfl, b2, seq ++ [(b.tran : Int)], ?_⟩
      rw [run_append, hs]
      simp only [BEq.rfl, if_true]
      exact run_cons.2 ⟨_, b4, run_nil.2 ⟨hfit _ b2, rfl⟩⟩
  exact key hc rfl
theorem Whole.run_comes {n : NetL} {m : List Int} {s : SpaceL} (h : Whole n m s) (seq : List Int) : ∀ {i k : Nat} {z : List Int}, i < s.marks.length → Comes (toZ s) k i → runL n (markAt s.marks i) seq = (z, 0) →
    (∃ j : Nat, j < s.marks.length ∧ z = markAt s.marks j ∧ Comes (toZ s) k j) ∧ ∀ t ∈ seq, ∃ a ∈ s.arcs, (a.tran : Int) = t ∧ Comes (toZ s) k a.frm := by
  induction seq with
  | nil =>
    intro i k z hi hc hr
    obtain ⟨_, rfl⟩ := run_nil.1 hr
    exact ⟨⟨i, hi, rfl, hc⟩, by simp⟩
  | cons t ts ih =>
    intro i k z hi hc hr
    obtain ⟨y, h1, h2⟩ := run_cons.1 hr
    rcases h.fire hi t with h3 | ⟨j, g, rfl, hg, hgl, e⟩
    · rw [h1] at h3; simp at h3
    · rw [e] at h1
      injection h1 with h1 _
      subst h1
      have hc2 : Comes (toZ s) k g := Comes.go (a := arcZ ⟨i, j, g⟩) hc (mem_arcZ.2 ⟨_, hg, rfl⟩)
      obtain ⟨q1, q2⟩ := ih hgl hc2 h2
      refine ⟨q1, fun t' ht' => ?_⟩
      rcases List.mem_cons.1 ht' with q | q
      · exact ⟨_, hg, q.symm, hc⟩
      · exact q2 t' q

/-- From each of the marks all marks are found again, where there is room. -/
theorem Whole.again {n : NetL} {m : List Int} {s : SpaceL} (h : Whole n m s) (hl : s.marks.length < 300) {f : Nat} (hf : f < s.marks.length) : ∃ u, graphL n (markAt s.marks f) 300 = (u, 0) := by
  have hfit : fitsL n (markAt s.marks f) = true := by obtain ⟨most, k, hF, hk⟩ := h; exact hF.fits _ (markAt_mem hf)
  have hok := graphOk_300 hfit
  cases hg : graphTo n (markAt s.marks f) 300 300 with
  | some u => exact ⟨u, by rw [graphL, hok]; simp only [if_true, show (300 : Int).toNat = 300 from rfl]; rw [hg]⟩
  | none =>
    exfalso
    obtain ⟨f', j, s', hj, hF, hf', hn⟩ := graph_broke (by omega) hfit _ hg
    have hin : ∀ g, g < s'.marks.length → ∃ g2, g2 < s.marks.length ∧ markAt s'.marks g = markAt s.marks g2 := by
      intro g
      induction g using Nat.strongRecOn with
      | ind g ih =>
        intro hgl
        by_cases e : g = 0
        · subst e; exact ⟨f, hf, hF.first⟩
        · obtain ⟨a, ha, hlt⟩ := hF.par g (by omega) hgl
          obtain ⟨h1, h2⟩ := firstTo_mem ha
          obtain ⟨q1, q2, q3, q4, q5⟩ := hF.sound a h1
          obtain ⟨g2, hg2, e2⟩ := ih a.frm hlt q1
          rw [e2, h2] at q5
          rcases h.fire hg2 a.tran with r | ⟨_, g3, _, _, hg3, e3⟩
          · rw [q5] at r; simp at r
          · rw [q5] at e3; injection e3 with e3 _; exact ⟨g3, hg3, e3⟩
    have hlen : s'.marks.length ≤ s.marks.length := nodup_sub hF.nodup fun x hx => by
      obtain ⟨g, hgl, rfl⟩ := List.getElem_of_mem hx
      obtain ⟨g2, hg2, e2⟩ := hin g hgl
      have e3 : s'.marks[g] = markAt s'.marks g := by simp [markAt, List.getD_eq_getElem?_getD, List.getElem?_eq_getElem hgl]
      rw [e3, e2]
      exact markAt_mem hg2
    obtain ⟨g2, hg2, e2⟩ := hin f' hf'
    rcases h.fire hg2 j with r | ⟨_, g3, _, _, hg3, e3⟩
    · unfold tryT at hn
      rw [e2, r] at hn
      simp at hn
    · unfold tryT at hn
      rw [e2, e3] at hn
      simp only [show ((0 : Int) == 3) = false from rfl, Bool.false_eq_true, if_false, BEq.rfl, if_true] at hn
      split at hn
      · cases hn
      · rw [if_neg (by omega)] at hn
        cases hn

end Go.Proofs.Ytgedpebnipghlaa

/- Plain words for nets that always come to their end; van der Aalst. -/
namespace Go.Proofs.Ytgedpebnipghlaa
set_option linter.unusedVariables false
set_option maxRecDepth 4000

structure VerdL where
  kind : Int
  at_ : List Int
  tran : Int

/-- It has the end, and something beside. -/
def ExtraM (E x : List Int) : Prop := coversL x E = true ∧ x ≠ E

/-- What is told of the marks that are found. -/
structure SaysV (n : NetL) (E : List Int) (s : SpaceL) (v : VerdL) : Prop where
  extra : ∀ k, k < s.marks.length → ExtraM E (markAt s.marks k) → (∀ j, j < k → ¬ ExtraM E (markAt s.marks j)) → v = ⟨2, markAt s.marks k, 0⟩
  stuck : (∀ j, j < s.marks.length → ¬ ExtraM E (markAt s.marks j)) → ∀ k, k < s.marks.length → ¬ ReachZ n (markAt s.marks k) E → (∀ j, j < k → ReachZ n (markAt s.marks j) E) → v = ⟨3, markAt s.marks k, 0⟩
  dead : (∀ j, j < s.marks.length → ¬ ExtraM E (markAt s.marks j)) → (∀ j, j < s.marks.length → ReachZ n (markAt s.marks j) E) → ∀ t ts, deadL (toZ s) n.trans.length = t :: ts → v = ⟨4, [], t⟩
  sound : (∀ j, j < s.marks.length → ¬ ExtraM E (markAt s.marks j)) → (∀ j, j < s.marks.length → ReachZ n (markAt s.marks j) E) → deadL (toZ s) n.trans.length = [] → v = ⟨1, [], 0⟩

structure Verd (n : NetL) (i o most : Int) (v : VerdL) (e : Int) : Prop where
  wrong : ¬ ShapeOk n i o → Judged n i o e ∧ v = ⟨0, [], 0⟩
  full : ShapeOk n i o → (graphL n (startL n.places i) most).2 ≠ 0 → e = (graphL n (startL n.places i) most).2 ∧ v = ⟨0, [], 0⟩
  right : ShapeOk n i o → ∀ s, graphL n (startL n.places i) most = (s, 0) → e = 0 ∧ SaysV n (startL n.places o) s v

theorem least_no {Q : Nat → Prop} {N : Nat} (h : ¬ ∀ j, j < N → Q j) : ∃ j, j < N ∧ ¬ Q j ∧ ∀ i, i < j → Q i := by
  induction N with
  | zero => exact absurd (fun j hj => absurd hj (Nat.not_lt_zero _)) h
  | succ N ih =>
    by_cases q : ∀ j, j < N → Q j
    · refine ⟨N, by omega, fun hN => h fun j hj => ?_, q⟩
      by_cases e : j = N
      · subst e; exact hN
      · exact q j (by omega)
    · obtain ⟨j, h1, h2, h3⟩ := ih q
      exact ⟨j, by omega, h2, h3⟩

/-- One of the four is so. -/
theorem SaysV.cases {n : NetL} {E : List Int} {s : SpaceL} {v : VerdL} (h : SaysV n E s v) :
    (∃ k, k < s.marks.length ∧ ExtraM E (markAt s.marks k) ∧ (∀ j, j < k → ¬ ExtraM E (markAt s.marks j)) ∧ v = ⟨2, markAt s.marks k, 0⟩) ∨
    ((∀ j, j < s.marks.length → ¬ ExtraM E (markAt s.marks j)) ∧ ∃ k, k < s.marks.length ∧ ¬ ReachZ n (markAt s.marks k) E ∧ (∀ j, j < k → ReachZ n (markAt s.marks j) E) ∧ v = ⟨3, markAt s.marks k, 0⟩) ∨
    ((∀ j, j < s.marks.length → ¬ ExtraM E (markAt s.marks j)) ∧ (∀ j, j < s.marks.length → ReachZ n (markAt s.marks j) E) ∧ ∃ t ts, deadL (toZ s) n.trans.length = t :: ts ∧ v = ⟨4, [], t⟩) ∨
    ((∀ j, j < s.marks.length → ¬ ExtraM E (markAt s.marks j)) ∧ (∀ j, j < s.marks.length → ReachZ n (markAt s.marks j) E) ∧ deadL (toZ s) n.trans.length = [] ∧ v = ⟨1, [], 0⟩) := by
  by_cases h1 : ∀ j, j < s.marks.length → ¬ ExtraM E (markAt s.marks j)
  · right
    by_cases h2 : ∀ j, j < s.marks.length → ReachZ n (markAt s.marks j) E
    · right
      cases hd : deadL (toZ s) n.trans.length with
      | nil => exact .inr ⟨h1, h2, rfl, h.sound h1 h2 hd⟩
      | cons t ts => exact .inl ⟨h1, h2, t, ts, rfl, h.dead h1 h2 t ts hd⟩
    · obtain ⟨k, q1, q2, q3⟩ := least_no h2
      exact .inl ⟨h1, k, q1, q2, q3, h.stuck h1 k q1 q2 q3⟩
  · left
    obtain ⟨k, q1, q2, q3⟩ := least_no h1
    have q2 := Classical.not_not.1 q2
    exact ⟨k, q1, q2, q3, h.extra k q1 q2 q3⟩

theorem SaysV.unique {n : NetL} {E : List Int} {s : SpaceL} {v u : VerdL} (h : SaysV n E s v) (k : SaysV n E s u) : v = u := by
  rcases h.cases with ⟨j, a1, a2, a3, e⟩ | ⟨a1, j, a2, a3, a4, e⟩ | ⟨a1, a2, t, ts, a3, e⟩ | ⟨a1, a2, a3, e⟩
  · rw [e, k.extra j a1 a2 a3]
  · rw [e, k.stuck a1 j a2 a3 a4]
  · rw [e, k.dead a1 a2 t ts a3]
  · rw [e, k.sound a1 a2 a3]

theorem Verd.unique {n : NetL} {i o most e f : Int} {v u : VerdL} (h : Verd n i o most v e) (k : Verd n i o most u f) : v = u ∧ e = f := by
  by_cases hs : ShapeOk n i o
  · cases hg : graphL n (startL n.places i) most with
    | mk s d =>
      by_cases hd : d = 0
      · subst hd
        obtain ⟨h1, h2⟩ := h.right hs s hg
        obtain ⟨k1, k2⟩ := k.right hs s hg
        exact ⟨h2.unique k2, by rw [h1, k1]⟩
      · obtain ⟨h1, h2⟩ := h.full hs (by rw [hg]; exact hd)
        obtain ⟨k1, k2⟩ := k.full hs (by rw [hg]; exact hd)
        exact ⟨by rw [h2, k2], by rw [h1, k1]⟩
  · obtain ⟨h1, h2⟩ := h.wrong hs
    obtain ⟨k1, k2⟩ := k.wrong hs
    exact ⟨by rw [h2, k2], h1.unique k1⟩

theorem Verd.zero {n : NetL} {i o most : Int} {v : VerdL} (h : Verd n i o most v 0) : ShapeOk n i o ∧ ∃ s, graphL n (startL n.places i) most = (s, 0) ∧ SaysV n (startL n.places o) s v := by
  by_cases hs : ShapeOk n i o
  · cases hg : graphL n (startL n.places i) most with
    | mk s d =>
      by_cases hd : d = 0
      · subst hd; exact ⟨hs, s, rfl, (h.right hs s hg).2⟩
      · have := (h.full hs (by rw [hg]; exact hd)).1
        rw [hg] at this
        exact absurd this.symm hd
  · exact absurd (h.wrong hs).1.zero hs
theorem Verd.none {n : NetL} {i o most e : Int} {v : VerdL} (h : Verd n i o most v e) (he : e ≠ 0) : v = ⟨0, [], 0⟩ := by
  by_cases hs : ShapeOk n i o
  · cases hg : graphL n (startL n.places i) most with
    | mk s d =>
      by_cases hd : d = 0
      · subst hd; exact absurd (h.right hs s hg).1 he
      · exact (h.full hs (by rw [hg]; exact hd)).2
  · exact (h.wrong hs).2

/-- What is sound. -/
theorem SaysV.kind {n : NetL} {E : List Int} {s : SpaceL} {v : VerdL} (h : SaysV n E s v) : v.kind = 1 ↔ (∀ j, j < s.marks.length → ¬ ExtraM E (markAt s.marks j)) ∧ (∀ j, j < s.marks.length → ReachZ n (markAt s.marks j) E) ∧ deadL (toZ s) n.trans.length = [] := by
  constructor
  · intro hk
    rcases h.cases with ⟨j, a1, a2, a3, e⟩ | ⟨a1, j, a2, a3, a4, e⟩ | ⟨a1, a2, t, ts, a3, e⟩ | ⟨a1, a2, a3, e⟩
    · rw [e] at hk; simp at hk
    · rw [e] at hk; simp at hk
    · rw [e] at hk; simp at hk
    · exact ⟨a1, a2, a3⟩
  · rintro ⟨a1, a2, a3⟩
    rw [h.sound a1 a2 a3]

/-! ### what is within some marks is told -/
theorem graph_within {n : NetL} {m : List Int} {most : Nat} {L : List (List Int)} (hm : 1 ≤ most) (hmx : most ≤ 300) (hf : fitsL n m = true) (hL : L.length ≤ most) (hin : ∀ x, ReachZ n m x → x ∈ L) (hr : ∀ x, ReachZ n m x → rightL x = true) : ∃ u, graphL n m most = (u, 0) := by
  have hok : graphOk n m most = true := by simp [graphOk, hf]; omega
  cases hg : graphTo n m most most with
  | some u => exact ⟨u, by rw [graphL, hok]; simp only [if_true, Int.toNat_natCast]; rw [hg]⟩
  | none =>
    exfalso
    obtain ⟨f, j, sp, hj, hF, hff, ht⟩ := graph_broke hm hf _ hg
    have hfit := hF.fits _ (markAt_mem hff)
    have hz := hF.reachZ f hff
    unfold tryT at ht
    split at ht
    · cases ht
    · rename_i h3
      have hcv : coversL (markAt sp.marks f) (tranAt n.trans j).pre = true := by
        cases hc : coversL (markAt sp.marks f) (tranAt n.trans j).pre
        · refine absurd ?_ h3
          unfold fireL
          rw [hfit, Int.toNat_natCast, hc]; simp
        · rfl
      have hst : StepZ n (markAt sp.marks f) j (addL (subL (markAt sp.marks f) (tranAt n.trans j).pre) (tranAt n.trans j).post) := ⟨hj, (coversL_iff _ _).1 hcv, rfl⟩
      have e1 := fire_mk hj hfit hcv (hr _ (hz.step hst))
      rw [e1] at ht
      simp only [BEq.rfl, if_true] at ht
      split at ht
      · cases ht
      · rename_i hfn
        split at ht
        · rename_i hlen
          have hx := findM_none hfn
          have hnd : (sp.marks ++ [addL (subL (markAt sp.marks f) (tranAt n.trans j).pre) (tranAt n.trans j).post]).Nodup := by
            rw [List.nodup_append]
            exact ⟨hF.nodup, by simp, fun a ha b hb e => by rw [List.mem_singleton] at hb; subst hb; subst e; exact hx ha⟩
          have := nodup_sub (l2 := L) hnd (fun x hx => hin x (by
            rcases List.mem_append.1 hx with q | q
            · obtain ⟨i, hi, rfl⟩ := List.getElem_of_mem q
              have := hF.reachZ i hi
              rw [markAt, List.getD_eq_getElem?_getD, List.getElem?_eq_getElem hi] at this
              exact this
            · rw [List.mem_singleton] at q; subst q; exact hz.step hst))
          simp at this
          omega
        · cases ht

/-- What was found is come to, and all that. -/
theorem Whole.iff {n : NetL} {m x : List Int} {s : SpaceL} (h : Whole n m s) : ReachZ n m x ↔ ∃ g, g < s.marks.length ∧ markAt s.marks g = x := by
  refine ⟨h.has, ?_⟩
  rintro ⟨g, hg, rfl⟩
  obtain ⟨_, _, hF, _⟩ := h
  exact hF.reachZ g hg
theorem Whole.right_of {n : NetL} {m x : List Int} {s : SpaceL} (h : Whole n m s) (hr : ReachZ n m x) : fitsL n x = true := by
  obtain ⟨g, hg, rfl⟩ := h.has hr
  exact h.fits hg

/-- Where more comes of less there is no end. -/
theorem no_pump {n : NetL} {m d : List Int} {s : SpaceL} (h : Whole n m s) (hd : (d.length : Int) = n.places) (h0 : ∀ p, 0 ≤ nth d p) (hp : ∃ p, nth d p ≠ 0) (hr : ReachZ n m (addL m d)) : False := by
  have hfm := h.right_of (ReachZ.here (n := n) (a := m))
  obtain ⟨hn, hl, hrm⟩ := fits_net hfm
  have rep : ∀ k : Nat, ∃ x, ReachZ n m x ∧ (x.length : Int) = n.places ∧ ∀ p, nth x p = nth m p + k * nth d p := by
    intro k
    induction k with
    | zero => exact ⟨m, ReachZ.here, hl, fun p => by simp⟩
    | succ k ih =>
      obtain ⟨x, hx, hxl, hxp⟩ := ih
      -- k times d beside
      let kd : List Int := subL x m
      have hkl : (kd.length : Int) = n.places := by show ((subL x m).length : Int) = _; rw [sub_length]; omega
      have hk0 : ∀ p, 0 ≤ nth kd p := fun p => by
        show 0 ≤ nth (subL x m) p
        rw [sub_at, hxp p]
        have := h0 p
        have : 0 ≤ (k : Int) * nth d p := Int.mul_nonneg (by omega) this
        omega
      have q := ReachZ.more hn hr hl hkl hk0
      have e : addL m kd = x := by
        refine eq_of_at (by show (addL m (subL x m)).length = _; rw [add_length, sub_length]; omega) fun p => ?_
        show nth (addL m (subL x m)) p = _
        rw [add_at, sub_at]; omega
      rw [e] at q
      refine ⟨addL (addL m d) kd, hx.trans q, by rw [add_length, add_length]; omega, fun p => ?_⟩
      show nth (addL (addL m d) (subL x m)) p = _
      rw [add_at, add_at, sub_at, hxp p]
      have : ((k + 1 : Nat) : Int) * nth d p = (k : Int) * nth d p + nth d p := by rw [Int.natCast_add, Int.add_mul]; simp
      omega
  obtain ⟨p, hp⟩ := hp
  obtain ⟨x, hx, _, hxp⟩ := rep 1000001
  have h1 := (okTok_nth (fits_net (h.right_of hx)).2.2 p).2
  have h2 := (okTok_nth hrm p).1
  have h3 := h0 p
  have := hxp p
  omega

end Go.Proofs.Ytgedpebnipghlaa

/- A slice of ints that came in, read as a list. -/
namespace Go.Proofs.Ytgedpebnipghlaa
open Go.ChangeShapes Go.WideShapes Go.ChangeAt Go.RowKit
set_option linter.unusedVariables false
set_option maxRecDepth 4000

theorem own : ownKnob Try.prog.godebug = none := by kernel_rfl
theorem laidOut : laidOutB Try.prog = true := by kernel_rfl
theorem bytes_int : Try.prog.bytesOf 3 = 8 := by kernel_rfl

theorem cell_lt {w : World} {a : Addr} {v : Value} (h : w.cell? a = some v) : a.block < w.heap.size := by
  rcases Nat.lt_or_ge a.block w.heap.size with h1 | h1
  · exact h1
  · unfold World.cell? at h
    rw [Array.getElem?_eq_none h1] at h
    simp at h

theorem ints_arg {H : Type} {enc : TypeId × Value → H} {W : World} {base : Nat} {v : Value} {d : DataW H} {p : List MemPlace}
    (hval : Value.okWide Try.prog W .any base 29 v) (h : DataW.Trod enc Try.prog W 0 (fun _ => true) true 29 v d p)
    (hsz : ∀ elems spare, d = .slice elems spare → (elems.length + spare.length) * 8 ≤ reachBytes) : ∃ xs, Ints W v xs := by
  obtain ⟨a0, len, cap, rfl⟩ := okWide_slice Try.underlying29 hval
  obtain ⟨fuel, hf⟩ := h
  rcases open_ints Try.underlying29 Try.underlying3 (by kernel_rfl) hf with ⟨hcs, _⟩ | ⟨x, l, c, zs, hcs, _, hl, hm, hz, hx, hcell, hwz⟩
  · simp [Value.cells] at hcs
    obtain ⟨rfl, rfl, rfl⟩ := hcs
    exact ⟨[], Ints.nil _⟩
  · simp [Value.cells] at hcs
    obtain ⟨rfl, rfl, rfl⟩ := hcs
    simp only [Prod.mk.injEq] at hx
    simp only [if_true] at hz
    have hs := hsz _ _ hx.1
    simp only [lits, List.length_map, List.length_take, List.length_drop, reachBytes] at hs
    refine ⟨zs.take len, x, len, cap, rfl, by simp; omega, by omega, ⟨hl, by unfold maxLen at hm; omega, fun h => by cases h⟩, fun j hj => ?_⟩
    have hj' : j < len := by simp at hj; omega
    have hc := hcell j (by omega)
    obtain ⟨b, off, spot⟩ := x
    have hspot : spot = none := by simpa [Addr.add] using World.cell?_spot (hcell 0 (by omega))
    subst hspot
    rw [add_plain] at hc
    refine ⟨b, off, rfl, ?_, ?_⟩
    · exact cell_lt hc
    · rw [hc]
      simp [nth, List.getD, hj']

end Go.Proofs.Ytgedpebnipghlaa
