/- Plain words for places that stay empty, and places that stay marked. -/
import Derived.Test.YtnklepfommakpaaNets
import Derived.Test.YtnklepfommakpaaRanges
namespace Go.Proofs.Ytnklepfommakpaa
set_option linter.unusedVariables false

/-- Has one of these places a weight? -/
def anyAt (w l : List Int) : Bool := l.any fun p => decide (0 ≤ p) && decide (p < w.length) && (nth w p.toNat != 0)
/-- Are these places of a right net? -/
def placesL (n : NetL) (l : List Int) : Bool := netOk n && l.all fun p => decide (0 ≤ p) && decide (p < n.places)
def siphT (l : List Int) (t : TranL) : Bool := !anyAt t.post l || anyAt t.pre l
def siphL (n : NetL) (l : List Int) : Bool := placesL n l && n.trans.all (siphT l)
def trapL (n : NetL) (l : List Int) : Bool := siphL (turnL n) l
/-- Has a mark nothing at these places? -/
def bareL (m l : List Int) : Bool := l.all fun p => !(decide (0 ≤ p) && decide (p < m.length) && decide (nth m p.toNat > 0))

/-- Those that no transition alone puts into. -/
def stepM (n : NetL) (l : List Int) : List Int := l.filter fun p => !(n.trans.any fun t => decide (nth t.post p.toNat > 0) && !anyAt t.pre l)
def coreTo (n : NetL) (l : List Int) : Nat → List Int
  | 0 => (rangeL n.places.toNat).filter fun p => l.contains p
  | k + 1 => stepM n (coreTo n l k)
/-- The largest siphon within these places, rising. -/
def mostL (n : NetL) (l : List Int) : List Int := if placesL n l then coreTo n l n.places.toNat else []

theorem anyAt_iff {w l : List Int} : anyAt w l = true ↔ ∃ p ∈ l, 0 ≤ p ∧ p < w.length ∧ nth w p.toNat ≠ 0 := by
  unfold anyAt
  simp [List.any_eq_true, and_assoc]
theorem anyAt_of {w l : List Int} {p : Nat} (hp : (p : Int) ∈ l) (h : nth w p ≠ 0) : anyAt w l = true := by
  refine anyAt_iff.2 ⟨p, hp, by omega, ?_, by simpa using h⟩
  rcases Nat.lt_or_ge p w.length with q | q
  · omega
  · exact absurd (nth_past w p q) h
theorem anyAt_mono {w l l' : List Int} (h : ∀ p ∈ l, p ∈ l') (ha : anyAt w l = true) : anyAt w l' = true := by
  obtain ⟨p, h1, h2⟩ := anyAt_iff.1 ha
  exact anyAt_iff.2 ⟨p, h p h1, h2⟩
theorem anyAt_append (w a b : List Int) : anyAt w (a ++ b) = (anyAt w a || anyAt w b) := by unfold anyAt; exact List.any_append
theorem bareL_iff {m l : List Int} : bareL m l = false ↔ ∃ p ∈ l, 0 ≤ p ∧ p < m.length ∧ 0 < nth m p.toNat := by
  unfold bareL
  rw [List.all_eq_false]
  simp [and_assoc]
theorem bareL_false {m l : List Int} {p : Nat} (hp : (p : Int) ∈ l) (h : 0 < nth m p) : bareL m l = false := by
  refine bareL_iff.2 ⟨p, hp, by omega, ?_, by simpa using h⟩
  rcases Nat.lt_or_ge p m.length with q | q
  · omega
  · rw [nth_past m p q] at h; omega
theorem bareL_true {m l : List Int} (h : bareL m l = true) {p : Nat} (hp : (p : Int) ∈ l) : nth m p ≤ 0 := by
  rcases Int.lt_or_le 0 (nth m p) with q | q
  · rw [bareL_false hp q] at h; cases h
  · exact q

theorem placesL_iff {n : NetL} {l : List Int} : placesL n l = true ↔ netOk n = true ∧ ∀ p ∈ l, 0 ≤ p ∧ p < n.places := by
  unfold placesL
  simp [List.all_eq_true]
theorem siph_places {n : NetL} {l : List Int} (h : siphL n l = true) : placesL n l = true := by
  unfold siphL at h
  rw [Bool.and_eq_true] at h
  exact h.1
theorem siph_tran {n : NetL} {l : List Int} (h : siphL n l = true) {t : TranL} (ht : t ∈ n.trans) (hp : anyAt t.post l = true) : anyAt t.pre l = true := by
  unfold siphL at h
  rw [Bool.and_eq_true, List.all_eq_true] at h
  have := h.2 t ht
  unfold siphT at this
  rw [hp] at this
  simpa using this
theorem siph_mk {n : NetL} {l : List Int} (hp : placesL n l = true) (h : ∀ t ∈ n.trans, anyAt t.post l = true → anyAt t.pre l = true) : siphL n l = true := by
  unfold siphL
  rw [hp, Bool.true_and, List.all_eq_true]
  intro t ht
  unfold siphT
  cases ha : anyAt t.post l with
  | false => rfl
  | true => rw [h t ht ha]; rfl
theorem siph_append {n : NetL} {a b : List Int} (ha : siphL n a = true) (hb : siphL n b = true) : siphL n (a ++ b) = true := by
  obtain ⟨h1, h2⟩ := placesL_iff.1 (siph_places ha)
  obtain ⟨_, h3⟩ := placesL_iff.1 (siph_places hb)
  refine siph_mk (placesL_iff.2 ⟨h1, fun p hp => ?_⟩) fun t ht hp => ?_
  · rcases List.mem_append.1 hp with q | q
    · exact h2 p q
    · exact h3 p q
  · rw [anyAt_append, Bool.or_eq_true] at hp ⊢
    rcases hp with q | q
    · exact .inl (siph_tran ha ht q)
    · exact .inr (siph_tran hb ht q)
theorem turn_places (n : NetL) (l : List Int) : placesL (turnL n) l = placesL n l := by
  unfold placesL
  congr 1
  cases h : netOk n with
  | true => exact turn_ok n h
  | false =>
    cases h2 : netOk (turnL n) with
    | false => rfl
    | true =>
      have h3 := turn_ok _ h2
      have e : turnL (turnL n) = n := by
        unfold turnL
        simp only [List.map_map]
        cases n with
        | mk P ts =>
          congr 1
          have : (turnT ∘ turnT) = id := by funext t; exact turn_turn t
          rw [this, List.map_id]
      rw [e, h] at h3
      cases h3
theorem trap_tran {n : NetL} {l : List Int} (h : trapL n l = true) {t : TranL} (ht : t ∈ n.trans) (hp : anyAt t.pre l = true) : anyAt t.post l = true := by
  have hm : turnT t ∈ (turnL n).trans := List.mem_map.2 ⟨t, ht, rfl⟩
  exact siph_tran (t := turnT t) h hm hp

/-- What fires, place by place. -/
theorem fire_at {n : NetL} {m x : List Int} {t : Int} (h : fireL n m t = (x, 0)) : ∃ k : Nat, t = k ∧ k < n.trans.length ∧ tranAt n.trans k ∈ n.trans ∧
    ∀ p, 0 ≤ nth (tranAt n.trans k).pre p ∧ 0 ≤ nth (tranAt n.trans k).post p ∧ nth (tranAt n.trans k).pre p ≤ nth m p ∧ nth x p = nth m p - nth (tranAt n.trans k).pre p + nth (tranAt n.trans k).post p := by
  obtain ⟨k, rfl, hk, hf, hc, hr, rfl⟩ := fire_ok h
  obtain ⟨hn, _, hrm⟩ := fits_net hf
  have hmem : tranAt n.trans k ∈ n.trans := by
    have e : tranAt n.trans k = n.trans[k] := by simp [tranAt, List.getD, List.getElem?_eq_getElem hk]
    rw [e]; exact List.getElem_mem hk
  obtain ⟨r1, r2⟩ := tran_right (net_tran hn hk)
  refine ⟨k, rfl, hk, hmem, fun p => ⟨(okTok_nth r1 p).1, (okTok_nth r2 p).1, (coversL_iff _ _).1 hc p, ?_⟩⟩
  rw [add_at, sub_at]

theorem fire_empty {n : NetL} {m x l : List Int} {t : Int} (h : fireL n m t = (x, 0)) (hs : siphL n l = true) (hb : bareL m l = true) : bareL x l = true := by
  obtain ⟨k, rfl, hk, hmem, hp⟩ := fire_at h
  cases hx : bareL x l with
  | true => rfl
  | false =>
    exfalso
    obtain ⟨p, h1, h2, h3, h4⟩ := bareL_iff.1 hx
    obtain ⟨q, rfl⟩ := Int.eq_ofNat_of_zero_le h2
    rw [Int.toNat_natCast] at h4
    obtain ⟨a1, a2, a3, a4⟩ := hp q
    have hmq := bareL_true hb h1
    have hpo : anyAt (tranAt n.trans k).post l = true := anyAt_of h1 (by omega)
    have hpr := siph_tran hs hmem hpo
    obtain ⟨r, g1, g2, g3, g4⟩ := anyAt_iff.1 hpr
    obtain ⟨q', rfl⟩ := Int.eq_ofNat_of_zero_le g2
    rw [Int.toNat_natCast] at g4
    obtain ⟨c1, c2, c3, c4⟩ := hp q'
    have := bareL_true hb g1
    omega

theorem fire_marked {n : NetL} {m x l : List Int} {t : Int} (h : fireL n m t = (x, 0)) (hs : trapL n l = true) (hb : bareL m l = false) : bareL x l = false := by
  obtain ⟨k, rfl, hk, hmem, hp⟩ := fire_at h
  cases hpr : anyAt (tranAt n.trans k).pre l with
  | true =>
    have hpo := trap_tran hs hmem hpr
    obtain ⟨r, g1, g2, g3, g4⟩ := anyAt_iff.1 hpo
    obtain ⟨q, rfl⟩ := Int.eq_ofNat_of_zero_le g2
    rw [Int.toNat_natCast] at g4
    obtain ⟨c1, c2, c3, c4⟩ := hp q
    exact bareL_false g1 (by omega)
  | false =>
    obtain ⟨p, h1, h2, h3, h4⟩ := bareL_iff.1 hb
    obtain ⟨q, rfl⟩ := Int.eq_ofNat_of_zero_le h2
    rw [Int.toNat_natCast] at h4
    obtain ⟨c1, c2, c3, c4⟩ := hp q
    have h0 : nth (tranAt n.trans k).pre q = 0 := by
      by_cases e : nth (tranAt n.trans k).pre q = 0
      · exact e
      · rw [anyAt_of h1 e] at hpr; cases hpr
    exact bareL_false h1 (by omega)

theorem run_empty {n : NetL} {l : List Int} (hs : siphL n l = true) (seq : List Int) : ∀ {m x : List Int}, runL n m seq = (x, 0) → bareL m l = true → bareL x l = true := by
  induction seq with
  | nil => intro m x h hb; obtain ⟨_, rfl⟩ := run_nil.1 h; exact hb
  | cons t ts ih => intro m x h hb; obtain ⟨y, h1, h2⟩ := run_cons.1 h; exact ih h2 (fire_empty h1 hs hb)
theorem run_marked {n : NetL} {l : List Int} (hs : trapL n l = true) (seq : List Int) : ∀ {m x : List Int}, runL n m seq = (x, 0) → bareL m l = false → bareL x l = false := by
  induction seq with
  | nil => intro m x h hb; obtain ⟨_, rfl⟩ := run_nil.1 h; exact hb
  | cons t ts ih => intro m x h hb; obtain ⟨y, h1, h2⟩ := run_cons.1 h; exact ih h2 (fire_marked h1 hs hb)

/-! ### the largest one -/
theorem core_sub (n : NetL) (l : List Int) (k : Nat) : (coreTo n l k).Sublist (rangeL n.places.toNat) := by
  induction k with
  | zero => exact List.filter_sublist
  | succ k ih => exact List.filter_sublist.trans ih
theorem core_sorted (n : NetL) (l : List Int) (k : Nat) : (coreTo n l k).Pairwise (· < ·) := (range_sorted _).sublist (core_sub n l k)
theorem core_in (n : NetL) (l : List Int) (k : Nat) : ∀ p ∈ coreTo n l k, p ∈ l := by
  induction k with
  | zero => intro p hp; unfold coreTo at hp; rw [List.mem_filter] at hp; simpa using hp.2
  | succ k ih => intro p hp; exact ih p (List.mem_filter.1 hp).1
/-- All other ones within l are in it. -/
theorem core_all {n : NetL} {l q : List Int} (hq : siphL n q = true) (hsub : ∀ p ∈ q, p ∈ l) (k : Nat) : ∀ p ∈ q, p ∈ coreTo n l k := by
  obtain ⟨hn, hpl⟩ := placesL_iff.1 (siph_places hq)
  induction k with
  | zero =>
    intro p hp
    unfold coreTo
    rw [List.mem_filter, mem_range]
    have := hpl p hp
    exact ⟨by omega, by simpa using hsub p hp⟩
  | succ k ih =>
    intro p hp
    show p ∈ stepM n (coreTo n l k)
    unfold stepM
    rw [List.mem_filter]
    refine ⟨ih p hp, ?_⟩
    cases ha : n.trans.any fun t => decide (nth t.post p.toNat > 0) && !anyAt t.pre (coreTo n l k) with
    | false => rfl
    | true =>
      exfalso
      obtain ⟨t, ht, h2⟩ := List.any_eq_true.1 ha
      simp only [Bool.and_eq_true, decide_eq_true_eq, Bool.not_eq_true'] at h2
      have hpp := hpl p hp
      have hpo : anyAt t.post q = true := by
        obtain ⟨p', rfl⟩ := Int.eq_ofNat_of_zero_le hpp.1
        exact anyAt_of hp (by rw [Int.toNat_natCast] at h2; omega)
      have := anyAt_mono ih (siph_tran hq ht hpo)
      rw [h2.2] at this
      cases this
theorem step_same {n : NetL} {l : List Int} (h : (stepM n l).length = l.length) : stepM n l = l := List.filter_sublist.eq_of_length h
theorem core_stable {n : NetL} {l : List Int} {k : Nat} (h : stepM n (coreTo n l k) = coreTo n l k) : ∀ j, coreTo n l (k + j) = coreTo n l k := by
  intro j
  induction j with
  | zero => rfl
  | succ j ih => show stepM n (coreTo n l (k + j)) = _; rw [ih]; exact h
theorem core_shrink (n : NetL) (l : List Int) : ∀ k, stepM n (coreTo n l k) = coreTo n l k ∨ (coreTo n l k).length + k ≤ n.places.toNat := by
  intro k
  induction k with
  | zero => right; have := (core_sub n l 0).length_le; simpa [rangeL] using this
  | succ k ih =>
    rcases ih with h | h
    · left; show stepM n (stepM n (coreTo n l k)) = stepM n (coreTo n l k); rw [h, h]
    · by_cases e : (stepM n (coreTo n l k)).length = (coreTo n l k).length
      · left
        have h1 := step_same e
        show stepM n (stepM n (coreTo n l k)) = stepM n (coreTo n l k)
        rw [h1, h1]
      · right
        have h1 : (stepM n (coreTo n l k)).length ≤ (coreTo n l k).length := List.length_filter_le _ _
        show (stepM n (coreTo n l k)).length + (k + 1) ≤ _
        omega
theorem core_end (n : NetL) (l : List Int) : stepM n (coreTo n l n.places.toNat) = coreTo n l n.places.toNat := by
  rcases core_shrink n l n.places.toNat with h | h
  · exact h
  · have h0 : (coreTo n l n.places.toNat).length = 0 := by omega
    rw [List.length_eq_zero_iff] at h0
    rw [h0]; rfl
/-- What is stable is a siphon. -/
theorem stable_siph {n : NetL} {l : List Int} (hp : placesL n l = true) (h : stepM n l = l) : siphL n l = true := by
  refine siph_mk hp fun t ht ha => ?_
  obtain ⟨p, h1, h2, h3, h4⟩ := anyAt_iff.1 ha
  rw [← h] at h1
  unfold stepM at h1
  rw [List.mem_filter, Bool.not_eq_true', List.any_eq_false] at h1
  have h5 := h1.2 t ht
  have hw : 0 ≤ nth t.post p.toNat := by
    obtain ⟨k, hk, rfl⟩ := List.getElem_of_mem ht
    have e : tranAt n.trans k = n.trans[k] := by simp [tranAt, List.getD, List.getElem?_eq_getElem hk]
    have := (tran_right (net_tran (placesL_iff.1 hp).1 hk)).2
    rw [e] at this
    exact (okTok_nth this _).1
  cases hb : anyAt t.pre l with
  | true => rfl
  | false => rw [hb] at h5; simp at h5; omega

theorem most_siph {n : NetL} {l : List Int} (hp : placesL n l = true) : siphL n (mostL n l) = true := by
  unfold mostL
  rw [if_pos hp]
  obtain ⟨h1, h2⟩ := placesL_iff.1 hp
  exact stable_siph (placesL_iff.2 ⟨h1, fun p hq => h2 p (core_in n l _ p hq)⟩) (core_end n l)
theorem most_in (n : NetL) (l : List Int) : ∀ p ∈ mostL n l, p ∈ l := by
  unfold mostL
  intro p hp
  split at hp
  · exact core_in n l _ p hp
  · simp at hp
theorem most_all {n : NetL} {l q : List Int} (hp : placesL n l = true) (hq : siphL n q = true) (hsub : ∀ p ∈ q, p ∈ l) : ∀ p ∈ q, p ∈ mostL n l := by
  unfold mostL
  rw [if_pos hp]
  exact core_all hq hsub _
theorem most_sorted (n : NetL) (l : List Int) : (mostL n l).Pairwise (· < ·) := by
  unfold mostL
  split
  · exact core_sorted n l _
  · exact List.Pairwise.nil
theorem most_none {n : NetL} {l : List Int} (hp : placesL n l = false) : mostL n l = [] := by unfold mostL; rw [hp]; rfl

end Go.Proofs.Ytnklepfommakpaa
