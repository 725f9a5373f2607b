/- Plain facts on trees that cover: nothing rises above them, what has nowhere Many is bounded, where there are Many there is no end. -/
import Derived.Test.YtbpkebkblkjdhaaCoverBase
import Derived.Test.YtbpkebkblkjdhaaReachMore
namespace Go.Proofs.Ytbpkebkblkjdhaa
set_option linter.unusedVariables false

theorem tran_weights {n : NetL} (hn : netOk n = true) {k : Nat} (hk : k < n.trans.length) (j : Nat) :
    (0 ≤ nth (tranAt n.trans k).pre j ∧ nth (tranAt n.trans k).pre j ≤ 9) ∧ 0 ≤ nth (tranAt n.trans k).post j ∧ nth (tranAt n.trans k).post j ≤ 9 := by
  have h := net_tran hn hk
  simp only [tranOk, tranHead, Bool.and_eq_true, List.all_append] at h
  have go : ∀ {xs : List Int}, xs.all weightOk = true → ∀ j, 0 ≤ nth xs j ∧ nth xs j ≤ 9 := by
    intro xs h j
    by_cases hj : j < xs.length
    · have := List.all_eq_true.1 h _ (List.getElem_mem hj)
      simp only [weightOk, Bool.and_eq_true, decide_eq_true_eq] at this
      simpa only [nth, List.getD, List.getElem?_eq_getElem hj, Option.getD_some] using this
    · rw [nth_past xs j (by omega)]; omega
  exact ⟨go h.2.1 j, go h.2.2 j⟩

/-- The shape of a mark of knot j. -/
def MarkOk (n : NetL) (j : Nat) (x : List Int) : Prop := (x.length : Int) = n.places ∧ ∀ p, -1 ≤ nth x p ∧ nth x p ≤ 1000000 + 9 * (j : Int)

theorem omFire_at {n : NetL} (hn : netOk n = true) {t : Nat} (ht : t < n.trans.length) {x : List Int} (hb : belowL (tranAt n.trans t).pre x = true) {j : Nat} (hx : MarkOk n j x) (p : Nat) :
    -1 ≤ nth (omFire (tranAt n.trans t) x) p ∧ nth (omFire (tranAt n.trans t) x) p ≤ 1000000 + 9 * (j : Int) + 9 := by
  obtain ⟨w1, w2⟩ := tran_weights hn ht p
  obtain ⟨x1, x2⟩ := hx.2 p
  unfold omFire
  by_cases hp : p < x.length
  · rw [mapTo_nth _ _ _ hp, omAt]
    have := (belowL_iff _ _).1 hb p hp
    rw [moreL_no] at this
    split <;> omega
  · rw [nth_past _ p (by rw [mapTo_length]; omega)]; omega
theorem kid_ok {n : NetL} (hn : netOk n = true) {u t : Nat} (ht : t < n.trans.length) {x : KnotX} (hb : belowL (tranAt n.trans t).pre x.mark = true) {j : Nat} (hx : MarkOk n u x.mark) (hu : u < j) : MarkOk n j (kid n u t x).mark := by
  obtain ⟨r1, r2⟩ := raiseN_raised x.mine (omFire (tranAt n.trans t) x.mark) (n.places.toNat + 1)
  refine ⟨by show ((raiseN _ _ _).length : Int) = _; rw [r1, omFire, mapTo_length]; exact hx.1, fun p => ?_⟩
  have h := omFire_at hn ht hb hx p
  show -1 ≤ nth (raiseN _ _ _) p ∧ nth (raiseN _ _ _) p ≤ _
  rcases r2 p with e | e <;> rw [e] <;> omega

theorem marks_ok {n : NetL} {m : List Int} {s : List KnotX} (hf : fitsL n m = true) (h0 : knotAt s 0 = rootK m)
    (hc : ∀ j, 0 < j → j < s.length → ∃ u t', u < j ∧ t' < n.trans.length ∧ belowL (tranAt n.trans t').pre (knotAt s u).mark = true ∧ knotAt s j = kid n u t' (knotAt s u)) :
    ∀ j, j < s.length → MarkOk n j (knotAt s j).mark := by
  obtain ⟨hn, hl, hr⟩ := fits_net hf
  intro j
  induction j using Nat.strongRecOn with
  | ind j ih =>
    intro hj
    by_cases e : j = 0
    · subst e
      rw [h0]
      refine ⟨hl, fun p => ?_⟩
      have := (rightL_iff m).1 hr p
      show -1 ≤ nth m p ∧ nth m p ≤ _
      omega
    · obtain ⟨u, t, hu, ht, hb, e1⟩ := hc j (by omega) hj
      rw [e1]
      exact kid_ok hn ht hb (ih u hu (by omega)) hu
theorem TreeOk.marks {n : NetL} {m : List Int} {s : List KnotX} (h : TreeOk n m s) {j : Nat} (hj : j < s.length) : MarkOk n j (knotAt s j).mark := marks_ok h.fits h.first h.child j hj
theorem Grown.marks {n : NetL} {m : List Int} {most k t : Nat} {s : List KnotX} (h : Grown n m most k t s) (hf : fitsL n m = true) {j : Nat} (hj : j < s.length) : MarkOk n j (knotAt s j).mark := marks_ok hf h.first h.child j hj

/-- What a knot comes of are marks of knots ahead of it. -/
theorem line_mem {n : NetL} {m : List Int} {s : List KnotX} (h0 : knotAt s 0 = rootK m)
    (hc : ∀ j, 0 < j → j < s.length → ∃ u t', u < j ∧ t' < n.trans.length ∧ belowL (tranAt n.trans t').pre (knotAt s u).mark = true ∧ knotAt s j = kid n u t' (knotAt s u)) :
    ∀ j, j < s.length → ∀ y ∈ (knotAt s j).line, ∃ i, i < j ∧ (knotAt s i).mark = y := by
  intro j
  induction j using Nat.strongRecOn with
  | ind j ih =>
    intro hj y hy
    by_cases e : j = 0
    · subst e; rw [h0] at hy; simp [rootK] at hy
    · obtain ⟨u, t, hu, ht, hb, e1⟩ := hc j (by omega) hj
      rw [e1] at hy
      rcases List.mem_append.1 (show y ∈ (knotAt s u).line ++ [(knotAt s u).mark] from hy) with q | q
      · obtain ⟨i, h1, h2⟩ := ih u hu (by omega) y q
        exact ⟨i, by omega, h2⟩
      · exact ⟨u, hu, (List.mem_singleton.1 q).symm⟩

theorem line_len {n : NetL} {m : List Int} {s : List KnotX} (h0 : knotAt s 0 = rootK m)
    (hc : ∀ j, 0 < j → j < s.length → ∃ u t', u < j ∧ t' < n.trans.length ∧ belowL (tranAt n.trans t').pre (knotAt s u).mark = true ∧ knotAt s j = kid n u t' (knotAt s u)) :
    ∀ j, j < s.length → (knotAt s j).line.length ≤ j := by
  intro j
  induction j using Nat.strongRecOn with
  | ind j ih =>
    intro hj
    by_cases e : j = 0
    · subst e; rw [h0]; simp [rootK]
    · obtain ⟨u, t, hu, ht, hb, e1⟩ := hc j (by omega) hj
      have := ih u hu (by omega)
      rw [e1]
      show ((knotAt s u).line ++ [(knotAt s u).mark]).length ≤ j
      simp; omega
theorem Grown.line {n : NetL} {m : List Int} {most k t : Nat} {s : List KnotX} (h : Grown n m most k t s) {j : Nat} (hj : j < s.length) : (knotAt s j).line.length ≤ j := line_len h.first h.child j hj

theorem Grown.mineLen {n : NetL} {m : List Int} {most k t : Nat} {s : List KnotX} (h : Grown n m most k t s) (hf : fitsL n m = true) {i : Nat} (hi : i < s.length) {j : Nat} (hj : j < (knotAt s i).mine.length) : ((markAt (knotAt s i).mine j).length : Int) = n.places := by
  rcases List.mem_append.1 (show markAt (knotAt s i).mine j ∈ (knotAt s i).line ++ [(knotAt s i).mark] from markAt_mem hj) with q | q
  · obtain ⟨u, h1, h2⟩ := line_mem h.first h.child i hi _ q
    rw [← h2]; exact (h.marks hf (by omega)).1
  · rw [List.mem_singleton] at q; rw [q]; exact (h.marks hf hi).1

/-- Each mark is one of a knot that nothing ahead is the same as. -/
theorem TreeOk.unseen {n : NetL} {m : List Int} {s : List KnotX} (h : TreeOk n m s) : ∀ j, j < s.length → ∃ i, i < s.length ∧ (knotAt s i).mark = (knotAt s j).mark ∧ seenK (knotAt s i) = false := by
  intro j
  induction j using Nat.strongRecOn with
  | ind j ih =>
    intro hj
    cases hs : seenK (knotAt s j)
    · exact ⟨j, hj, rfl, hs⟩
    · obtain ⟨i, h1, h2⟩ := line_mem h.first h.child j hj _ (List.contains_iff_mem.1 hs)
      obtain ⟨i', q1, q2, q3⟩ := ih i h1 (by omega)
      exact ⟨i', q1, q2.trans h2, q3⟩

/-- At each place as many, or Many. -/
def CovM (u x : List Int) : Prop := u.length = x.length ∧ ∀ p, p < x.length → nth u p = -1 ∨ nth x p ≤ nth u p

theorem TreeOk.cov_step {n : NetL} {m x y : List Int} {s : List KnotX} {t : Int} (h : TreeOk n m s) (hx : ∃ k, k < s.length ∧ CovM (knotAt s k).mark x) (hf : fireL n x t = (y, 0)) : ∃ k, k < s.length ∧ CovM (knotAt s k).mark y := by
  obtain ⟨k0, hk0, hc0⟩ := hx
  obtain ⟨k, hk, e, hu⟩ := h.unseen k0 hk0
  have hc : CovM (knotAt s k).mark x := by rw [e]; exact hc0
  obtain ⟨j, rfl, hj, hfx, hcv, _, rfl⟩ := fire_ok hf
  rw [coversL_iff] at hcv
  obtain ⟨hn, hl, hr⟩ := fits_net hfx
  obtain ⟨l1, l2⟩ := tran_length hn hj
  have hb : belowL (tranAt n.trans j).pre (knotAt s k).mark = true := by
    rw [belowL_iff]
    intro p hp
    rw [moreL_no]
    have := hcv p
    obtain ⟨⟨w1, _⟩, _⟩ := tran_weights hn hj p
    rcases hc.2 p (by rw [← hc.1]; exact hp) with q | q
    · exact .inl q
    · exact .inr (by omega)
  rcases h.whole k j hk hj with q | q | ⟨g, hg, e2⟩
  · rw [q] at hu; cases hu
  · rw [q] at hb; cases hb
  · refine ⟨g, hg, ?_⟩
    rw [e2]
    obtain ⟨r1, r2⟩ := raiseN_raised (knotAt s k).mine (omFire (tranAt n.trans j) (knotAt s k).mark) (n.places.toNat + 1)
    have hlen : (addL (subL x (tranAt n.trans j).pre) (tranAt n.trans j).post).length = x.length := by rw [add_length, sub_length]; omega
    refine ⟨by rw [hlen, ← hc.1]; exact r1.trans (mapTo_length _ _), fun p hp => ?_⟩
    rw [hlen] at hp
    show nth (raiseN _ _ _) p = -1 ∨ _ ≤ nth (raiseN _ _ _) p
    rcases r2 p with q | q
    · exact .inl q
    · rw [q, omFire, mapTo_nth _ _ _ (by rw [hc.1]; exact hp), omAt, add_at, sub_at]
      split
      · exact .inl rfl
      · rename_i hne
        rcases hc.2 p hp with q2 | q2
        · exact absurd q2 hne
        · exact .inr (by omega)

theorem TreeOk.cov_run {n : NetL} {m : List Int} {s : List KnotX} (h : TreeOk n m s) (seq : List Int) : ∀ {a x : List Int}, (∃ k, k < s.length ∧ CovM (knotAt s k).mark a) → runL n a seq = (x, 0) → ∃ k, k < s.length ∧ CovM (knotAt s k).mark x := by
  induction seq with
  | nil => intro a x ha e; obtain ⟨_, rfl⟩ := run_nil.1 e; exact ha
  | cons t ts ih => intro a x ha e; obtain ⟨z, h1, h2⟩ := run_cons.1 e; exact ih (h.cov_step ha h1) h2
/-- Nothing rises above it. -/
theorem TreeOk.covers {n : NetL} {m x : List Int} {s : List KnotX} (h : TreeOk n m s) {seq : List Int} (e : runL n m seq = (x, 0)) : ∃ k, k < s.length ∧ CovM (knotAt s k).mark x :=
  h.cov_run seq ⟨0, h.pos, by rw [h.first]; exact ⟨rfl, fun p _ => .inr (Int.le_refl _)⟩⟩ e

/-- A firing, however many tokens there are. -/
def StepZ (n : NetL) (x : List Int) (t : Nat) (y : List Int) : Prop := t < n.trans.length ∧ (∀ p, nth (tranAt n.trans t).pre p ≤ nth x p) ∧ y = addL (subL x (tranAt n.trans t).pre) (tranAt n.trans t).post
/-- What is come to by firings. -/
def ReachZ (n : NetL) (a b : List Int) : Prop := ∀ P : List Int → Prop, P a → (∀ (x y : List Int) (t : Nat), P x → StepZ n x t y → P y) → P b
theorem ReachZ.here {n : NetL} {a : List Int} : ReachZ n a a := fun _ h _ => h
theorem ReachZ.step {n : NetL} {a x y : List Int} {t : Nat} (h : ReachZ n a x) (hs : StepZ n x t y) : ReachZ n a y := fun P h0 h1 => h1 x y t (h P h0 h1) hs
theorem ReachZ.ind {n : NetL} {a : List Int} {motive : (b : List Int) → ReachZ n a b → Prop} (here : motive a ReachZ.here) (step : ∀ {x y : List Int} {t : Nat} (h : ReachZ n a x) (hs : StepZ n x t y), motive x h → motive y (h.step hs)) {b : List Int} (h : ReachZ n a b) : motive b h := by
  obtain ⟨h', q⟩ := h (fun b => ∃ h : ReachZ n a b, motive b h) ⟨ReachZ.here, here⟩ (fun x y t ⟨hx, qx⟩ hs => ⟨hx.step hs, step hx hs qx⟩)
  exact q
theorem ReachZ.trans {n : NetL} {a b c : List Int} (h : ReachZ n a b) (k : ReachZ n b c) : ReachZ n a c := by
  induction k using ReachZ.ind with
  | here => exact h
  | step _ hs ih => exact ih.step hs
theorem ReachZ.length {n : NetL} (hn : netOk n = true) {a b : List Int} (h : ReachZ n a b) (ha : (a.length : Int) = n.places) : (b.length : Int) = n.places := by
  induction h using ReachZ.ind with
  | here => exact ha
  | step _ hs ih =>
    obtain ⟨ht, _, rfl⟩ := hs
    obtain ⟨l1, l2⟩ := tran_length hn ht
    rw [add_length, sub_length]; omega
theorem StepZ.nonneg {n : NetL} (hn : netOk n = true) {x y : List Int} {t : Nat} (h : StepZ n x t y) (p : Nat) : 0 ≤ nth y p := by
  obtain ⟨ht, hc, rfl⟩ := h
  have := hc p
  have := (tran_weights hn ht p).2
  rw [add_at, sub_at]; omega
/-- With so much more it can be done as well. -/
theorem ReachZ.more {n : NetL} (hn : netOk n = true) {a b d : List Int} (h : ReachZ n a b) (ha : (a.length : Int) = n.places) (hd : (d.length : Int) = n.places) (h0 : ∀ p, 0 ≤ nth d p) : ReachZ n (addL a d) (addL b d) := by
  induction h using ReachZ.ind with
  | here => exact .here
  | @step x y t hr hs ih =>
    refine ih.step (t := t) ?_
    have hx := hr.length hn ha
    obtain ⟨ht, hc, rfl⟩ := hs
    obtain ⟨l1, l2⟩ := tran_length hn ht
    refine ⟨ht, fun p => by rw [add_at]; have := hc p; have := h0 p; omega, eq_of_at (by simp only [add_length, sub_length]; omega) fun p => by simp only [add_at, sub_at]; omega⟩

theorem omFire_plain {n : NetL} (hn : netOk n = true) {t : Nat} (ht : t < n.trans.length) {x : List Int} (hl : (x.length : Int) = n.places) (h : ∀ p, nth x p ≠ -1) : omFire (tranAt n.trans t) x = addL (subL x (tranAt n.trans t).pre) (tranAt n.trans t).post := by
  obtain ⟨l1, l2⟩ := tran_length hn ht
  refine eq_of_at (by rw [omFire, mapTo_length, add_length, sub_length]; omega) fun p => ?_
  rw [add_at, sub_at]
  by_cases hp : p < x.length
  · rw [omFire, mapTo_nth _ _ _ hp, omAt, if_neg (h p)]
  · rw [omFire, nth_past _ p (by rw [mapTo_length]; omega), nth_past x p (by omega), nth_past (tranAt n.trans t).pre p (by omega), nth_past (tranAt n.trans t).post p (by omega)]; rfl
theorem below_plain {n : NetL} (hn : netOk n = true) {t : Nat} (ht : t < n.trans.length) {x : List Int} (hl : (x.length : Int) = n.places) (h : ∀ p, nth x p ≠ -1) : belowL (tranAt n.trans t).pre x = true ↔ ∀ p, nth (tranAt n.trans t).pre p ≤ nth x p := by
  obtain ⟨l1, l2⟩ := tran_length hn ht
  rw [belowL_iff]
  constructor
  · intro q p
    by_cases hp : p < x.length
    · have := q p hp; rw [moreL_no] at this; have := h p; omega
    · rw [nth_past _ p (by omega), nth_past x p (by omega)]; omega
  · intro q p hp
    rw [moreL_no]
    have := q p
    have := (tran_weights hn ht p).1
    omega

/-- Where the first J knots have nowhere Many, they are come to; and what they come of leads to them. -/
theorem TreeOk.exact {n : NetL} {m : List Int} {s : List KnotX} (h : TreeOk n m s) {J : Nat} (hJ : J ≤ s.length) (hm : ∀ i, i < J → ∀ p, nth (knotAt s i).mark p ≠ -1) : ∀ i, i < J →
    ReachZ n m (knotAt s i).mark ∧ ∀ y ∈ (knotAt s i).line, ReachZ n m y ∧ ReachZ n y (knotAt s i).mark := by
  obtain ⟨hn, hl, hr⟩ := fits_net h.fits
  intro i
  induction i using Nat.strongRecOn with
  | ind i ih =>
    intro hi
    by_cases e : i = 0
    · subst e
      rw [h.first]
      exact ⟨.here, fun y hy => by simp [rootK] at hy⟩
    · obtain ⟨u, t, hu, ht, hb, e1⟩ := h.child i (by omega) (by omega)
      obtain ⟨q1, q2⟩ := ih u hu (by omega)
      have hmu := hm u (by omega)
      have hlu := (h.marks (j := u) (by omega)).1
      have hz : (knotAt s i).mark = addL (subL (knotAt s u).mark (tranAt n.trans t).pre) (tranAt n.trans t).post := by
        have r := raiseN_raised (knotAt s u).mine (omFire (tranAt n.trans t) (knotAt s u).mark) (n.places.toNat + 1)
        have := r.same (fun p => by have := hm i hi p; rw [e1] at this; exact this)
        rw [e1]
        exact this.trans (omFire_plain hn ht hlu hmu)
      have hst : StepZ n (knotAt s u).mark t (knotAt s i).mark := ⟨ht, (below_plain hn ht hlu hmu).1 hb, hz⟩
      refine ⟨q1.step hst, fun y hy => ?_⟩
      rw [e1] at hy
      rcases List.mem_append.1 (show y ∈ (knotAt s u).line ++ [(knotAt s u).mark] from hy) with q | q
      · exact ⟨(q2 y q).1, (q2 y q).2.step hst⟩
      · rw [List.mem_singleton] at q; subst q; exact ⟨q1, ReachZ.here.step hst⟩

/-- Where nothing has Many, all that is come to is there. -/
theorem TreeOk.all {n : NetL} {m x : List Int} {s : List KnotX} (h : TreeOk n m s) (hm : ∀ i, i < s.length → ∀ p, nth (knotAt s i).mark p ≠ -1) (hr : ReachZ n m x) : ∃ k, k < s.length ∧ (knotAt s k).mark = x := by
  obtain ⟨hn, hl, _⟩ := fits_net h.fits
  induction hr using ReachZ.ind with
  | here => exact ⟨0, h.pos, by rw [h.first]; rfl⟩
  | @step x y t _ hs ih =>
    obtain ⟨k0, hk0, e0⟩ := ih
    obtain ⟨k, hk, e, hu⟩ := h.unseen k0 hk0
    rw [e0] at e
    obtain ⟨ht, hc, rfl⟩ := hs
    have hlk := (h.marks hk).1
    have hb := (below_plain hn ht hlk (hm k hk)).2 (by rw [e]; exact hc)
    rcases h.whole k t hk ht with q | q | ⟨g, hg, e2⟩
    · rw [q] at hu; cases hu
    · rw [q] at hb; cases hb
    · refine ⟨g, hg, ?_⟩
      have r := raiseN_raised (knotAt s k).mine (omFire (tranAt n.trans t) (knotAt s k).mark) (n.places.toNat + 1)
      have := r.same (fun p => by have := hm g hg p; rw [e2] at this; exact this)
      rw [e2, ← e]
      exact this.trans (omFire_plain hn ht hlk (hm k hk))

theorem run_reachZ {n : NetL} (seq : List Int) : ∀ {a x : List Int}, runL n a seq = (x, 0) → ReachZ n a x := by
  induction seq with
  | nil => intro a x e; obtain ⟨_, rfl⟩ := run_nil.1 e; exact .here
  | cons t ts ih =>
    intro a x e
    obtain ⟨z, h1, h2⟩ := run_cons.1 e
    obtain ⟨j, rfl, hj, _, hc, _, rfl⟩ := fire_ok h1
    exact (ReachZ.here.step ⟨hj, (coversL_iff _ _).1 hc, rfl⟩).trans (ih h2)

theorem fire_code {n : NetL} {x : List Int} (hf : fitsL n x = true) {t : Nat} (ht : t < n.trans.length) (hc : ∀ p, nth (tranAt n.trans t).pre p ≤ nth x p) : (fireL n x t).2 ≠ 3 := by
  unfold fireL
  rw [hf, decide_eq_true (show (0 : Int) ≤ t by omega), decide_eq_true (show (t : Int) < n.trans.length by omega), Int.toNat_natCast, (coversL_iff _ _).2 hc]
  simp only [Bool.and_true, if_true]
  split <;> simp

/-- What is come to is among all marks. -/
theorem Whole.has {n : NetL} {m x : List Int} {s : SpaceL} (h : Whole n m s) (hr : ReachZ n m x) : ∃ g, g < s.marks.length ∧ markAt s.marks g = x := by
  induction hr using ReachZ.ind with
  | here => exact ⟨0, h.here⟩
  | @step x y t _ hs ih =>
    obtain ⟨f, hf, rfl⟩ := ih
    obtain ⟨ht, hc, rfl⟩ := hs
    have hfit : fitsL n (markAt s.marks f) = true := by obtain ⟨_, _, hF, _⟩ := h; exact hF.fits _ (markAt_mem hf)
    rcases h.fire hf t with q | ⟨j, g, e, _, hg, e2⟩
    · exact absurd q (fire_code hfit ht hc)
    · obtain ⟨j', e3, _, _, _, _, e4⟩ := fire_ok e2
      have : j' = t := by omega
      subst this
      exact ⟨g, hg, e4⟩
theorem Whole.fits {n : NetL} {m : List Int} {s : SpaceL} (h : Whole n m s) {g : Nat} (hg : g < s.marks.length) : fitsL n (markAt s.marks g) = true := by
  obtain ⟨_, _, hF, _⟩ := h; exact hF.fits _ (markAt_mem hg)

/-- What was found is come to. -/
theorem Found.reachZ {n : NetL} {m : List Int} {most k t : Nat} {s : SpaceL} (h : Found n m most k t s) : ∀ g, g < s.marks.length → ReachZ n m (markAt s.marks g) := by
  intro g
  induction g using Nat.strongRecOn with
  | ind g ih =>
    intro hg
    by_cases e : g = 0
    · subst e; rw [h.first]; exact .here
    · obtain ⟨a, ha, hlt⟩ := h.par g (by omega) hg
      obtain ⟨h1, h2⟩ := firstTo_mem ha
      obtain ⟨q1, q2, q3, q4, q5⟩ := h.sound a h1
      obtain ⟨j, e3, hj, _, hc, _, e4⟩ := fire_ok q5
      rw [h2] at e4
      exact (ih a.frm hlt q1).step ⟨hj, (coversL_iff _ _).1 hc, e4⟩

/-- What has nowhere Many is bounded: or there are more tokens than marks may have. -/
theorem TreeOk.full {n : NetL} {m : List Int} {s : List KnotX} (h : TreeOk n m s) (hm : ∀ i, i < s.length → ∀ p, nth (knotAt s i).mark p ≠ -1) (hg : (graphL n m 300).2 ≠ 0) : ∃ k p, k < s.length ∧ 1000000 < nth (knotAt s k).mark p := by
  obtain ⟨hn, hl, _⟩ := fits_net h.fits
  have hno : graphTo n m 300 300 = none := by
    unfold graphL at hg
    rw [graphOk_300 h.fits] at hg
    simp only [if_true] at hg
    cases e : graphTo n m 300 300 with
    | none => rfl
    | some sp => exact absurd (show _ from hg) (by rw [show (300 : Int).toNat = 300 from rfl, e]; simp)
  obtain ⟨f, j, sp, hj, hF, hf, ht⟩ := graph_broke (by omega) h.fits 300 hno
  have hfit := hF.fits _ (markAt_mem hf)
  have hz := hF.reachZ f hf
  unfold tryT at ht
  split at ht
  · cases ht
  · rename_i h3
    have hcv : coversL (markAt sp.marks f) (tranAt n.trans j).pre = true := by
      cases hc : coversL (markAt sp.marks f) (tranAt n.trans j).pre
      · refine absurd ?_ h3
        unfold fireL
        rw [hfit, Int.toNat_natCast, hc]; simp
      · rfl
    have hst : StepZ n (markAt sp.marks f) j (addL (subL (markAt sp.marks f) (tranAt n.trans j).pre) (tranAt n.trans j).post) := ⟨hj, (coversL_iff _ _).1 hcv, rfl⟩
    cases hr : rightL (addL (subL (markAt sp.marks f) (tranAt n.trans j).pre) (tranAt n.trans j).post)
    · obtain ⟨k, hk, e⟩ := h.all hm (hz.step hst)
      have hnr : ¬ ∀ p, 0 ≤ nth (knotAt s k).mark p ∧ nth (knotAt s k).mark p ≤ 1000000 := by rw [← rightL_iff, e, hr]; simp
      rw [Classical.not_forall] at hnr
      obtain ⟨p, hp⟩ := hnr
      have := hst.nonneg hn p
      rw [← e] at this
      exact ⟨k, p, hk, by omega⟩
    · have e1 := fire_mk hj hfit hcv hr
      rw [e1] at ht
      simp only [BEq.rfl, if_true] at ht
      split at ht
      · cases ht
      · rename_i hfn
        split at ht
        · rename_i hlen
          exfalso
          have hx := findM_none hfn
          have hnd : (sp.marks ++ [addL (subL (markAt sp.marks f) (tranAt n.trans j).pre) (tranAt n.trans j).post]).Nodup := by
            rw [List.nodup_append]
            exact ⟨hF.nodup, by simp, fun a ha b hb e => by rw [List.mem_singleton] at hb; subst hb; subst e; exact hx ha⟩
          have := nodup_sub (l2 := s.map KnotX.mark) hnd (fun x hx => by
            have hxz : ReachZ n m x := by
              rcases List.mem_append.1 hx with q | q
              · obtain ⟨i, hi, rfl⟩ := List.getElem_of_mem q
                have := hF.reachZ i hi
                rw [markAt, List.getD_eq_getElem?_getD, List.getElem?_eq_getElem hi] at this
                exact this
              · rw [List.mem_singleton] at q; subst q; exact hz.step hst
            obtain ⟨k, hk, e⟩ := h.all hm hxz
            rw [← e, knotAt_get hk]
            exact List.mem_map.2 ⟨s[k], List.getElem_mem hk, rfl⟩)
          simp at this
          have := h.room
          omega
        · cases ht

theorem TreeOk.same {n : NetL} {m : List Int} {s : List KnotX} {sp : SpaceL} (h : TreeOk n m s) (hm : ∀ i, i < s.length → ∀ p, nth (knotAt s i).mark p ≠ -1) (hg : graphL n m 300 = (sp, 0)) :
    (∀ g, g < sp.marks.length → ∃ k, k < s.length ∧ (knotAt s k).mark = markAt sp.marks g) ∧ ∀ k, k < s.length → ∃ g, g < sp.marks.length ∧ markAt sp.marks g = (knotAt s k).mark := by
  have hw := graphL_whole hg
  refine ⟨fun g hlt => ?_, fun k hk => hw.has (h.exact (Nat.le_refl _) hm k hk).1⟩
  obtain ⟨_, _, hF, _⟩ := hw
  exact h.all hm (hF.reachZ g hlt)

/-- Where there are Many there is no end. -/
theorem TreeOk.many {n : NetL} {m : List Int} {s : List KnotX} (h : TreeOk n m s) (hm : ∃ i p, i < s.length ∧ nth (knotAt s i).mark p = -1) : (graphL n m 300).2 = 4 := by
  obtain ⟨hn, hl, hr⟩ := fits_net h.fits
  have main : ∀ sp, graphL n m 300 ≠ (sp, 0) := by
    intro sp hg
    have hw := graphL_whole hg
    -- the first knot that has Many
    have hex : ∃ i, i < s.length ∧ (∃ p, nth (knotAt s i).mark p = -1) ∧ ∀ i', i' < i → ∀ p, nth (knotAt s i').mark p ≠ -1 := by
      obtain ⟨i, p, hi, hp⟩ := hm
      clear hg hw
      induction i using Nat.strongRecOn generalizing p with
      | ind i ih =>
        by_cases hall : ∀ i', i' < i → ∀ p, nth (knotAt s i').mark p ≠ -1
        · exact ⟨i, hi, ⟨p, hp⟩, hall⟩
        · rw [Classical.not_forall] at hall
          obtain ⟨i', hall⟩ := hall
          rw [Classical.not_imp] at hall
          obtain ⟨hi', hall⟩ := hall
          rw [Classical.not_forall] at hall
          obtain ⟨p', hp'⟩ := hall
          exact ih i' hi' p' (by omega) (Classical.not_not.1 hp')
    obtain ⟨i, hi, ⟨p0, hp0⟩, hfirst⟩ := hex
    have hi0 : 0 < i := by
      rcases Nat.eq_zero_or_pos i with e | e
      · subst e
        rw [h.first] at hp0
        have := (rightL_iff m).1 hr p0
        have hp0 : nth m p0 = -1 := hp0
        omega
      · exact e
    obtain ⟨u, t, hu, ht, hb, e1⟩ := h.child i hi0 hi
    have hmu := hfirst u hu
    have hlu := (h.marks (j := u) (by omega)).1
    have hx := omFire_plain hn ht hlu hmu
    have hst : StepZ n (knotAt s u).mark t (omFire (tranAt n.trans t) (knotAt s u).mark) := ⟨ht, (below_plain hn ht hlu hmu).1 hb, hx⟩
    obtain ⟨z1, z2⟩ := h.exact (Nat.le_of_lt hi) hfirst u hu
    -- somebody below it, with less somewhere
    have hy : ∃ y ∈ (knotAt s u).mine, belowL y (omFire (tranAt n.trans t) (knotAt s u).mark) = true ∧ ∃ p, p < (omFire (tranAt n.trans t) (knotAt s u).mark).length ∧ moreL (nth (omFire (tranAt n.trans t) (knotAt s u).mark) p) (nth y p) = true := by
      refine Classical.byContradiction fun hno => ?_
      have := raise_still (mine := (knotAt s u).mine) (x := omFire (tranAt n.trans t) (knotAt s u).mark) (fun y hy hyb p hp => by
        cases hmo : moreL (nth (omFire (tranAt n.trans t) (knotAt s u).mark) p) (nth y p)
        · rfl
        · exact absurd ⟨y, hy, hyb, p, hp, hmo⟩ hno) (n.places.toNat + 1)
      rw [e1] at hp0
      have hp0 : nth (raiseN (knotAt s u).mine (omFire (tranAt n.trans t) (knotAt s u).mark) (n.places.toNat + 1)) p0 = -1 := hp0
      rw [this] at hp0
      have := hst.nonneg hn p0
      omega
    generalize omFire (tranAt n.trans t) (knotAt s u).mark = x at *
    obtain ⟨y, hym, hyb, p, hp, hmore⟩ := hy
    have hyz : ReachZ n m y ∧ ReachZ n y x := by
      rcases List.mem_append.1 (show y ∈ (knotAt s u).line ++ [(knotAt s u).mark] from hym) with q | q
      · exact ⟨(z2 y q).1, (z2 y q).2.step hst⟩
      · rw [List.mem_singleton] at q; subst q; exact ⟨z1, ReachZ.here.step hst⟩
    have hyl := hyz.1.length hn hl
    have hxl := hyz.2.length hn hyl
    have hx0 := fun q => hst.nonneg hn q
    have hle : ∀ q, nth y q ≤ nth x q := by
      intro q
      by_cases hq : q < x.length
      · have := (belowL_iff _ _).1 hyb q hq
        rw [moreL_no] at this
        have := hx0 q
        omega
      · rw [nth_past y q (by omega), nth_past x q (by omega)]; omega
    have hlt : nth y p < nth x p := by rw [moreL_yes] at hmore; have := hx0 p; omega
    -- again and again
    have hrep : ∀ c : Nat, ∃ z, ReachZ n m z ∧ (z.length : Int) = n.places ∧ (∀ q, nth y q ≤ nth z q) ∧ nth y p + c ≤ nth z p := by
      intro c
      induction c with
      | zero => exact ⟨y, hyz.1, hyl, fun q => Int.le_refl _, by simp⟩
      | succ c ih =>
        obtain ⟨z, hz, hzl, hz1, hz2⟩ := ih
        have ed : addL y (subL z y) = z := eq_of_at (by rw [add_length, sub_length]; omega) fun q => by rw [add_at, sub_at]; omega
        have hm2 := hyz.2.more hn hyl (d := subL z y) (by rw [sub_length]; omega) (fun q => by rw [sub_at]; have := hz1 q; omega)
        rw [ed] at hm2
        refine ⟨_, hz.trans hm2, by rw [add_length, sub_length]; omega, fun q => ?_, ?_⟩
        · rw [add_at, sub_at]; have := hz1 q; have := hle q; omega
        · rw [add_at, sub_at]; push_cast; omega
    obtain ⟨z, hz, _, _, hz2⟩ := hrep 2000002
    obtain ⟨g, hg1, rfl⟩ := hw.has hz
    have := (fits_net (hw.fits hg1)).2.2
    have := (rightL_iff _).1 this p
    obtain ⟨g2, hg2, e2⟩ := hw.has hyz.1
    have hy2 := (fits_net (hw.fits hg2)).2.2
    rw [e2] at hy2
    have := (rightL_iff _).1 hy2 p
    omega
  have hco : graphOk n m 300 = true := graphOk_300 h.fits
  unfold graphL at main ⊢
  rw [hco] at main ⊢
  simp only [if_true] at main ⊢
  split at main
  · rename_i sp e; exact absurd rfl (main sp)
  · rfl

/-- What is no more than another one, which is no more than a third. -/
theorem moreL_trans {a b c : Int} (h1 : moreL a b = false) (h2 : moreL b c = false) : moreL a c = false := by
  rw [moreL_no] at *; omega
theorem topL_ge (p : Nat) (l : List KnotL) : ∀ x, moreL x (topL p l x) = false ∧ ∀ k ∈ l, moreL (nth k.mark p) (topL p l x) = false := by
  induction l with
  | nil => exact fun x => ⟨by rw [moreL_no]; show x = -1 ∨ x ≠ -1 ∧ x ≤ x; omega, fun k hk => by simp at hk⟩
  | cons k l ih =>
    intro x
    have e : topL p (k :: l) x = topL p l (if moreL (nth k.mark p) x then nth k.mark p else x) := rfl
    rw [e]
    obtain ⟨q1, q2⟩ := ih (if moreL (nth k.mark p) x then nth k.mark p else x)
    cases hk : moreL (nth k.mark p) x
    · rw [hk] at q1 q2
      simp only [Bool.false_eq_true, if_false] at q1 q2 ⊢
      exact ⟨q1, fun k' hk' => by
        rcases List.mem_cons.1 hk' with rfl | h'
        · exact moreL_trans hk q1
        · exact q2 k' h'⟩
    · rw [hk] at q1 q2
      simp only [if_true] at q1 q2 ⊢
      refine ⟨moreL_trans ?_ q1, fun k' hk' => ?_⟩
      · rw [moreL_yes] at hk; rw [moreL_no]; omega
      · rcases List.mem_cons.1 hk' with rfl | h'
        · exact q1
        · exact q2 k' h'

/-- A limit is one. -/
theorem limit_run {n : NetL} {m x : List Int} {p most k : Int} {seq : List Int} (h : limitL n m p most = (k, 0)) (hr : runL n m seq = (x, 0)) : k = -1 ∨ (0 ≤ p ∧ p < x.length ∧ nth x p.toNat ≤ k) := by
  unfold limitL at h
  split at h
  · rename_i h0
    split at h
    · rename_i hp
      simp only [Bool.and_eq_true, decide_eq_true_eq] at hp
      simp only [Prod.mk.injEq, and_true] at h
      obtain ⟨s, el, hT⟩ := treeL_ok (n := n) (m := m) (most := most) (l := (treeL n m most).1) (Prod.ext rfl (by simpa using h0))
      obtain ⟨j, hj, hc⟩ := hT.covers hr
      have hl := (fits_net (run_fits seq hr).2).2.1
      have := (topL_ge p.toNat (treeL n m most).1 0).2 (knotAt s j).knot (by rw [el, knotAt_get hj]; exact List.mem_map.2 ⟨s[j], List.getElem_mem hj, rfl⟩)
      rw [h, moreL_no] at this
      rcases this with q | ⟨q1, q2⟩
      · exact .inl q
      · right
        refine ⟨hp.1, by omega, ?_⟩
        have q1 : nth (knotAt s j).mark p.toNat ≠ -1 := q1
        have q2 : nth (knotAt s j).mark p.toNat ≤ k := q2
        rcases hc.2 p.toNat (by omega) with q3 | q3
        · exact absurd q3 q1
        · omega
    · simp at h
  · rename_i h0
    simp only [Prod.mk.injEq] at h
    rw [h.2] at h0
    simp at h0
theorem limit_err {n : NetL} {m : List Int} {p most : Int} (h : (limitL n m p most).2 ≠ 0) : (limitL n m p most).1 = 0 := by
  unfold limitL at h ⊢
  split
  · rename_i h0
    split
    · rename_i hp; rw [if_pos h0, if_pos hp] at h; simp at h
    · rfl
  · rfl

end Go.Proofs.Ytbpkebkblkjdhaa
