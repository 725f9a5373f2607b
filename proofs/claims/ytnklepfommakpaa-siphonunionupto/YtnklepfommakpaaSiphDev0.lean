/- Package siphon as it landed: groups of places, plain. -/
import Derived.Test.YtnklepfommakpaaSiphBase2
namespace Go.Proofs.Ytnklepfommakpaa
set_option linter.unusedVariables false

/-- The places of a group, rising. -/
def setL (g : Nat → Bool) : List Int := (rangeL 16).filter fun p => g p.toNat

theorem mem_set {g : Nat → Bool} {p : Int} : p ∈ setL g ↔ 0 ≤ p ∧ p < 16 ∧ g p.toNat = true := by
  unfold setL
  rw [List.mem_filter, mem_range]
  constructor
  · rintro ⟨⟨h1, h2⟩, h3⟩; exact ⟨h1, by simpa using h2, h3⟩
  · rintro ⟨h1, h2, h3⟩; exact ⟨⟨h1, by simpa using h2⟩, h3⟩

theorem set_sorted (g : Nat → Bool) : (setL g).Pairwise (· < ·) := (range_sorted _).sublist List.filter_sublist

/-- The first k of them, rising. -/
def setTo (g : Nat → Bool) (k : Nat) : List Int := (rangeL k).filter fun p => g p.toNat

theorem setTo_zero (g : Nat → Bool) : setTo g 0 = [] := rfl

theorem setTo_succ (g : Nat → Bool) (k : Nat) : setTo g (k + 1) = setTo g k ++ (if g k = true then [(k : Int)] else []) := by
  unfold setTo rangeL
  rw [List.range_succ, List.map_append, List.filter_append]
  congr 1
  cases h : g k <;> simp [h]

theorem setTo_length (g : Nat → Bool) (k : Nat) : (setTo g k).length ≤ k := by
  unfold setTo
  have := List.length_filter_le (fun p : Int => g p.toNat) (rangeL k)
  simpa [rangeL] using this

/-- Has one of the first k a weight? -/
def meetNo (g : Nat → Bool) (w : List Int) (k : Nat) : Prop := ∀ p, p < k → ¬ (nth w p ≠ 0 ∧ g p = true)

theorem meetNo_succ {g : Nat → Bool} {w : List Int} {k : Nat} (h : meetNo g w k) (hn : ¬ (nth w k ≠ 0 ∧ g k = true)) : meetNo g w (k + 1) := by
  intro p hp
  by_cases e : p = k
  · subst e; exact hn
  · exact h p (by omega)

theorem meetNo_all {g : Nat → Bool} {w : List Int} (h : meetNo g w w.length) : anyAt w (setL g) = false := by
  cases hb : anyAt w (setL g) with
  | false => rfl
  | true =>
    exfalso
    obtain ⟨p, h1, h2, h3, h4⟩ := anyAt_iff.1 hb
    obtain ⟨_, _, h5⟩ := mem_set.1 h1
    exact h p.toNat (by omega) ⟨h4, h5⟩

theorem meet_yes {g : Nat → Bool} {w : List Int} {p : Nat} (hl : w.length ≤ 16) (hp : p < w.length) (h : nth w p ≠ 0 ∧ g p = true) : anyAt w (setL g) = true :=
  anyAt_of (p := p) (mem_set.2 ⟨by omega, by omega, by simpa using h.2⟩) h.1

/-- Without those of the first k that have a weight. -/
def outG (g : Nat → Bool) (w : List Int) (k : Nat) : Nat → Bool := fun p => g p && !(decide (p < k) && (nth w p != 0))

theorem outG_zero (g : Nat → Bool) (w : List Int) : outG g w 0 = g := by funext p; simp [outG]

theorem outG_skip {g : Nat → Bool} {w : List Int} {k : Nat} (h : nth w k = 0) : outG g w (k + 1) = outG g w k := by
  funext p
  unfold outG
  by_cases e : p = k
  · subst e; simp [h]
  · have : (decide (p < k + 1)) = decide (p < k) := by rw [decide_eq_decide]; omega
    rw [this]

theorem outG_put {g : Nat → Bool} {w : List Int} {k : Nat} (h : nth w k ≠ 0) (p : Nat) : outG g w (k + 1) p = if p = k then false else outG g w k p := by
  unfold outG
  by_cases e : p = k
  · subst e; simp [h]
  · have : (decide (p < k + 1)) = decide (p < k) := by rw [decide_eq_decide]; omega
    rw [this, if_neg e]

theorem mem_out {g : Nat → Bool} {w : List Int} {p : Int} : p ∈ setL (outG g w w.length) ↔ p ∈ setL g ∧ nth w p.toNat = 0 := by
  rw [mem_set, mem_set]
  unfold outG
  constructor
  · rintro ⟨h1, h2, h3⟩
    rw [Bool.and_eq_true] at h3
    refine ⟨⟨h1, h2, h3.1⟩, ?_⟩
    by_cases hl : p.toNat < w.length
    · have := h3.2; simpa [hl] using this
    · exact nth_past _ _ (by omega)
  · rintro ⟨⟨h1, h2, h3⟩, h4⟩
    refine ⟨h1, h2, ?_⟩
    rw [h3, h4]; simp

/-- What has been left of a group: all siphons in it are still there. -/
structure Left (n : NetL) (g0 g : Nat → Bool) : Prop where
  sub : ∀ p ∈ setL g, p ∈ setL g0
  all : ∀ q, siphL n q = true → (∀ p ∈ q, p ∈ setL g0) → ∀ p ∈ q, p ∈ setL g

theorem Left.refl (n : NetL) (g : Nat → Bool) : Left n g g := ⟨fun _ h => h, fun _ _ h => h⟩

theorem Left.step {n : NetL} {g0 g : Nat → Bool} (h : Left n g0 g) {t : TranL} (ht : t ∈ n.trans) (h1 : anyAt t.post (setL g) = true) (h2 : anyAt t.pre (setL g) = false) :
    Left n g0 (outG g t.post t.post.length) ∧ (setL (outG g t.post t.post.length)).length < (setL g).length := by
  refine ⟨⟨fun p hp => h.sub p (mem_out.1 hp).1, fun q hq hs p hp => ?_⟩, ?_⟩
  · have hin := h.all q hq hs
    refine mem_out.2 ⟨hin p hp, ?_⟩
    by_cases e : nth t.post p.toNat = 0
    · exact e
    · exfalso
      obtain ⟨_, hpl⟩ := placesL_iff.1 (siph_places hq)
      obtain ⟨k, rfl⟩ := Int.eq_ofNat_of_zero_le (hpl p hp).1
      rw [Int.toNat_natCast] at e
      have h3 := anyAt_mono hin (siph_tran hq ht (anyAt_of hp e))
      rw [h2] at h3
      cases h3
  · have hsub : (setL (outG g t.post t.post.length)).Sublist (setL g) := by
      have e : setL (outG g t.post t.post.length) = (setL g).filter fun p => !(decide (p.toNat < t.post.length) && (nth t.post p.toNat != 0)) := by
        unfold setL
        rw [List.filter_filter]
        refine List.filter_congr fun p _ => ?_
        unfold outG
        rw [Bool.and_comm]
      rw [e]
      exact List.filter_sublist
    rcases Nat.lt_or_ge (setL (outG g t.post t.post.length)).length (setL g).length with q | q
    · exact q
    · exfalso
      have e := hsub.eq_of_length (by have := hsub.length_le; omega)
      obtain ⟨p, p1, p2, p3, p4⟩ := anyAt_iff.1 h1
      rw [← e] at p1
      exact p4 (mem_out.1 p1).2

theorem Left.places {n : NetL} {g0 g : Nat → Bool} (h : Left n g0 g) (hp : placesL n (setL g0) = true) : placesL n (setL g) = true := by
  obtain ⟨h1, h2⟩ := placesL_iff.1 hp
  exact placesL_iff.2 ⟨h1, fun p hq => h2 p (h.sub p hq)⟩

/-- Do the first k transitions keep to it? -/
def keepTo (n : NetL) (g : Nat → Bool) (k : Nat) : Prop := ∀ j, j < k → anyAt (tranAt n.trans j).post (setL g) = true → anyAt (tranAt n.trans j).pre (setL g) = true

theorem keepTo_succ {n : NetL} {g : Nat → Bool} {k : Nat} (h : keepTo n g k) (hk : anyAt (tranAt n.trans k).post (setL g) = true → anyAt (tranAt n.trans k).pre (setL g) = true) : keepTo n g (k + 1) := by
  intro j hj
  by_cases e : j = k
  · subst e; exact hk
  · exact h j (by omega)

theorem keep_siph {n : NetL} {g : Nat → Bool} (hp : placesL n (setL g) = true) (h : keepTo n g n.trans.length) : siphL n (setL g) = true := by
  refine siph_mk hp fun t ht ha => ?_
  obtain ⟨k, hk, rfl⟩ := List.getElem_of_mem ht
  have e : tranAt n.trans k = n.trans[k] := by simp [tranAt, List.getD, List.getElem?_eq_getElem hk]
  have := h k hk
  rw [e] at this
  exact this ha

theorem tran_mem {n : NetL} {k : Nat} (hk : k < n.trans.length) : tranAt n.trans k ∈ n.trans := by
  have e : tranAt n.trans k = n.trans[k] := by simp [tranAt, List.getD, List.getElem?_eq_getElem hk]
  rw [e]; exact List.getElem_mem hk

/-- Of a group with these places the largest siphon is the document's. -/
theorem left_most {n : NetL} {l : List Int} {g0 g : Nat → Bool} (hp : placesL n l = true) (h0 : ∀ p, p ∈ setL g0 ↔ p ∈ l) (h : Left n g0 g) (hs : siphL n (setL g) = true) : setL g = mostL n l := by
  refine up_unique (set_sorted g) (most_sorted n l) fun p => ⟨fun hq => ?_, fun hq => ?_⟩
  · exact most_all hp hs (fun p hp => (h0 p).1 (h.sub p hp)) p hq
  · exact h.all _ (most_siph hp) (fun p hp => (h0 p).2 (most_in n l p hp)) p hq

theorem anyAt_same {w l l' : List Int} (h : ∀ p, p ∈ l ↔ p ∈ l') : anyAt w l = anyAt w l' := by
  rw [Bool.eq_iff_iff]
  exact ⟨anyAt_mono fun p hp => (h p).1 hp, anyAt_mono fun p hp => (h p).2 hp⟩

theorem siph_same {n : NetL} {l l' : List Int} (h : ∀ p, p ∈ l ↔ p ∈ l') (hs : siphL n l = true) : siphL n l' = true := by
  obtain ⟨h1, h2⟩ := placesL_iff.1 (siph_places hs)
  refine siph_mk (placesL_iff.2 ⟨h1, fun p hp => h2 p ((h p).2 hp)⟩) fun t ht ha => ?_
  rw [← anyAt_same h] at ha ⊢
  exact siph_tran hs ht ha

/-- Are two groups one? -/
def sameG (g h : Nat → Bool) : Bool := (List.range 16).all fun p => g p == h p

theorem sameG_iff {g h : Nat → Bool} : sameG g h = true ↔ ∀ p, p < 16 → g p = h p := by
  unfold sameG
  rw [List.all_eq_true]
  constructor
  · intro q p hp; simpa using q p (List.mem_range.2 hp)
  · intro q p hp; simpa using q p (List.mem_range.1 hp)

/-- A group that loses nothing is a siphon, and no other one is. -/
theorem left_siph {n : NetL} {l : List Int} {g0 g : Nat → Bool} (hp : placesL n l = true) (h0 : ∀ p, p ∈ setL g0 ↔ p ∈ l) (h : Left n g0 g) (hs : siphL n (setL g) = true) : sameG g g0 = siphL n l := by
  rw [Bool.eq_iff_iff, sameG_iff]
  constructor
  · intro q
    refine siph_same (fun p => ?_) hs
    rw [← h0 p, mem_set, mem_set]
    constructor
    · rintro ⟨a, b, c⟩; exact ⟨a, b, by rw [← q p.toNat (by omega)]; exact c⟩
    · rintro ⟨a, b, c⟩; exact ⟨a, b, by rw [q p.toNat (by omega)]; exact c⟩
  · intro q p hp
    have q1 := h.sub (p : Int)
    have q2 := h.all l q (fun p hp => (h0 p).2 hp) (p : Int)
    rw [← h0] at q2
    rw [mem_set, mem_set, Int.toNat_natCast] at q1 q2
    rw [Bool.eq_iff_iff]
    exact ⟨fun a => (q1 ⟨by omega, by omega, a⟩).2.2, fun a => (q2 ⟨by omega, by omega, a⟩).2.2⟩

/-- Of the first k numbers those that have come. -/
def hadG (l : List Int) (k : Nat) : Nat → Bool := fun p => (l.take k).contains (p : Int)

theorem hadG_zero (l : List Int) : hadG l 0 = fun _ => false := by funext p; simp [hadG]

theorem hadG_put {l : List Int} {k q : Nat} (hk : k < l.length) (hq : nth l k = (q : Int)) (p : Nat) : hadG l (k + 1) p = if p = q then true else hadG l k p := by
  unfold hadG
  have e : nth l k = l[k] := by simp [nth, List.getD, List.getElem?_eq_getElem hk]
  rw [List.take_succ_eq_append_getElem hk, ← e, hq]
  by_cases hp : p = q
  · subst hp; simp
  · rw [if_neg hp, Bool.eq_iff_iff]
    simp only [List.contains_iff_mem, List.mem_append, List.mem_singleton]
    constructor
    · rintro (h | h)
      · exact h
      · omega
    · exact .inl

theorem had_mem {n : NetL} {l : List Int} (hp : placesL n l = true) (p : Int) : p ∈ setL (hadG l l.length) ↔ p ∈ l := by
  obtain ⟨h1, h2⟩ := placesL_iff.1 hp
  have hP : n.places ≤ 16 := by
    have := h1
    simp only [netOk, headOk, Bool.and_eq_true, decide_eq_true_eq] at this
    exact this.1.1.2
  rw [mem_set]
  unfold hadG
  rw [List.take_length, List.contains_iff_mem]
  constructor
  · rintro ⟨a, b, c⟩; rwa [Int.toNat_of_nonneg a] at c
  · intro a
    have := h2 p a
    exact ⟨by omega, by omega, by rw [Int.toNat_of_nonneg (by omega)]; exact a⟩

theorem places_of {n : NetL} {l : List Int} (hn : netOk n = true) (h : ∀ j, j < l.length → 0 ≤ nth l j ∧ nth l j < n.places) : placesL n l = true := by
  refine placesL_iff.2 ⟨hn, fun p hp => ?_⟩
  obtain ⟨j, hj, e⟩ := List.getElem_of_mem hp
  have : nth l j = p := by simp [nth, List.getD, List.getElem?_eq_getElem hj, e]
  rw [← this]; exact h j hj

theorem places_not {n : NetL} {l : List Int} {j : Nat} (hj : j < l.length) (h : ¬ (0 ≤ nth l j ∧ nth l j < n.places)) : placesL n l = false := by
  cases hb : placesL n l with
  | false => rfl
  | true =>
    have e : nth l j = l[j] := by simp [nth, List.getD, List.getElem?_eq_getElem hj]
    exact absurd ((placesL_iff.1 hb).2 (nth l j) (by rw [e]; exact List.getElem_mem hj)) h

theorem ok_places {n : NetL} (h : netOk n = true) : 0 ≤ n.places ∧ n.places ≤ 16 := by
  simp only [netOk, headOk, Bool.and_eq_true, decide_eq_true_eq] at h
  exact ⟨h.1.1.1, h.1.1.2⟩

end Go.Proofs.Ytnklepfommakpaa
