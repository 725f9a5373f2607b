/- Plain words for nets with a beginning and an end. -/
import Derived.Test.YteohpkicbkhpjaaNets
import Derived.Test.YteohpkicbkhpjaaCoverBase
namespace Go.Proofs.Yteohpkicbkhpjaa
set_option linter.unusedVariables false
set_option maxRecDepth 4000

/-- One token, at one place. -/
def startL (P i : Int) : List Int := mapTo (min P 16).toNat fun p => if (p : Int) = i then 1 else 0

theorem start_length (P i : Int) : (startL P i).length = (min P 16).toNat := mapTo_length _ _

theorem start_at (P i : Int) (p : Nat) (hp : p < (min P 16).toNat) : nth (startL P i) p = if (p : Int) = i then 1 else 0 := mapTo_nth _ _ _ hp

theorem start_bounds (P i : Int) (p : Nat) : 0 ≤ nth (startL P i) p ∧ nth (startL P i) p ≤ 1 := by
  by_cases hp : p < (min P 16).toNat
  · rw [start_at P i p hp]
    split <;> omega
  · rw [nth_past _ _ (by rw [start_length]; omega)]; omega

theorem start_right (P i : Int) : rightL (startL P i) = true := (rightL_iff _).2 fun j => by have := start_bounds P i j; omega

/-- Which places are behind a place. -/
def WayP (n : NetL) (f p : Nat) : Prop := ∀ Q : Nat → Prop, Q f → (∀ k a b, k < n.trans.length → Q a → nth (tranAt n.trans k).pre a ≠ 0 → nth (tranAt n.trans k).post b ≠ 0 → Q b) → Q p
/-- Which transitions are. -/
def WayT (n : NetL) (f k : Nat) : Prop := ∃ p, WayP n f p ∧ nth (tranAt n.trans k).pre p ≠ 0

theorem WayP.here (n : NetL) (f : Nat) : WayP n f f := fun Q h _ => h
theorem WayP.step {n : NetL} {f k a b : Nat} (h : WayP n f a) (hk : k < n.trans.length) (h1 : nth (tranAt n.trans k).pre a ≠ 0) (h2 : nth (tranAt n.trans k).post b ≠ 0) : WayP n f b :=
  fun Q q1 q2 => q2 k a b hk (h Q q1 q2) h1 h2

structure ShapeOk (n : NetL) (i o : Int) : Prop where
  ok : netOk n = true
  ne : i ≠ o
  i0 : 0 ≤ i
  i1 : i < n.places
  o0 : 0 ≤ o
  o1 : o < n.places
  p1 : ∀ p : Nat, (p : Int) < n.places → WayP n i.toNat p
  p2 : ∀ p : Nat, (p : Int) < n.places → WayP (turnL n) o.toNat p
  t1 : ∀ k, k < n.trans.length → WayT n i.toNat k
  t2 : ∀ k, k < n.trans.length → WayT (turnL n) o.toNat k
  put : ∀ k, k < n.trans.length → nth (tranAt n.trans k).post i.toNat = 0
  take : ∀ k, k < n.trans.length → nth (tranAt n.trans k).pre o.toNat = 0

/-- What is wrong. -/
structure Judged (n : NetL) (i o e : Int) : Prop where
  bad : netOk n = false → e = 2
  form : netOk n = true → ¬ ShapeOk n i o → e = 1
  right : ShapeOk n i o → e = 0

theorem Judged.unique {n : NetL} {i o e f : Int} (h : Judged n i o e) (k : Judged n i o f) : e = f := by
  cases hn : netOk n with
  | false => rw [h.bad hn, k.bad hn]
  | true =>
    by_cases hs : ShapeOk n i o
    · rw [h.right hs, k.right hs]
    · rw [h.form hn hs, k.form hn hs]

theorem Judged.of_bad {n : NetL} {i o : Int} (h : netOk n = false) : Judged n i o 2 := ⟨fun _ => rfl, fun q => (by rw [h] at q; cases q), fun q => (by have := q.ok; rw [h] at this; cases this)⟩
theorem Judged.of_form {n : NetL} {i o : Int} (h : netOk n = true) (hs : ¬ ShapeOk n i o) : Judged n i o 1 := ⟨fun q => (by rw [h] at q; cases q), fun _ _ => rfl, fun q => absurd q hs⟩
theorem Judged.of_right {n : NetL} {i o : Int} (hs : ShapeOk n i o) : Judged n i o 0 := ⟨fun q => (by have := hs.ok; rw [q] at this; cases this), fun _ q => absurd hs q, fun _ => rfl⟩
theorem Judged.zero {n : NetL} {i o : Int} (h : Judged n i o 0) : ShapeOk n i o := by
  cases hn : netOk n with
  | false => have := h.bad hn; omega
  | true =>
    by_cases hs : ShapeOk n i o
    · exact hs
    · have := h.form hn hs; omega
theorem Judged.not_zero {n : NetL} {i o e : Int} (h : Judged n i o e) (he : e ≠ 0) : ¬ ShapeOk n i o := fun hs => he (h.right hs)

theorem turn_back (n : NetL) : turnL (turnL n) = n := by
  unfold turnL
  simp only [List.map_map]
  cases n with
  | mk P ts =>
    congr 1
    have : (turnT ∘ turnT) = id := by funext t; exact turn_turn t
    rw [this, List.map_id]

theorem turn_ok_iff (n : NetL) : netOk (turnL n) = netOk n := by
  cases h : netOk n with
  | true => exact turn_ok n h
  | false =>
    cases h2 : netOk (turnL n) with
    | false => rfl
    | true =>
      have h3 := turn_ok _ h2
      rw [turn_back, h] at h3
      cases h3

theorem turn_count (n : NetL) : (turnL n).trans.length = n.trans.length := by simp [turnL]

theorem turn_tran (n : NetL) {k : Nat} (hk : k < n.trans.length) : tranAt (turnL n).trans k = turnT (tranAt n.trans k) := turn_at _ _ hk

/-- The other way round it has one, too. -/
theorem ShapeOk.turned {n : NetL} {i o : Int} (h : ShapeOk n i o) : ShapeOk (turnL n) o i where
  ok := by rw [turn_ok_iff]; exact h.ok
  ne := fun e => h.ne e.symm
  i0 := h.o0
  i1 := h.o1
  o0 := h.i0
  o1 := h.i1
  p1 := h.p2
  p2 := by rw [turn_back]; exact h.p1
  t1 := by rw [turn_count]; exact h.t2
  t2 := by rw [turn_back, turn_count]; exact h.t1
  put := by
    rw [turn_count]
    intro k hk
    rw [turn_tran n hk]
    exact h.take k hk
  take := by
    rw [turn_count]
    intro k hk
    rw [turn_tran n hk]
    exact h.put k hk

theorem Judged.turned {n : NetL} {i o e : Int} (h : Judged n i o e) : Judged (turnL n) o i e where
  bad := by rw [turn_ok_iff]; exact h.bad
  form := by
    rw [turn_ok_iff]
    exact fun q hs => h.form q fun k => hs k.turned
  right := fun hs => h.right (by have := hs.turned; rwa [turn_back] at this)

/-- With one more transition, from the end to the beginning. -/
def closeL (n : NetL) (i o : Int) : NetL := ⟨n.places, n.trans ++ [⟨0, startL n.places o, startL n.places i⟩]⟩

/-- What Close answers. -/
structure Closed (n : NetL) (i o : Int) (c : NetL) (e : Int) : Prop where
  right : ShapeOk n i o → n.trans.length < 24 → e = 0 ∧ c = closeL n i o
  full : ShapeOk n i o → ¬ n.trans.length < 24 → e = 4 ∧ c = ⟨0, []⟩
  bad : ¬ ShapeOk n i o → Judged n i o e ∧ c = ⟨0, []⟩

theorem Closed.unique {n c d : NetL} {i o e f : Int} (h : Closed n i o c e) (k : Closed n i o d f) : c = d ∧ e = f := by
  by_cases hs : ShapeOk n i o
  · by_cases hl : n.trans.length < 24
    · obtain ⟨h1, h2⟩ := h.right hs hl
      obtain ⟨k1, k2⟩ := k.right hs hl
      exact ⟨by rw [h2, k2], by rw [h1, k1]⟩
    · obtain ⟨h1, h2⟩ := h.full hs hl
      obtain ⟨k1, k2⟩ := k.full hs hl
      exact ⟨by rw [h2, k2], by rw [h1, k1]⟩
  · obtain ⟨h1, h2⟩ := h.bad hs
    obtain ⟨k1, k2⟩ := k.bad hs
    exact ⟨by rw [h2, k2], h1.unique k1⟩

theorem Closed.zero {n c : NetL} {i o : Int} (h : Closed n i o c 0) : ShapeOk n i o ∧ n.trans.length < 24 ∧ c = closeL n i o := by
  by_cases hs : ShapeOk n i o
  · by_cases hl : n.trans.length < 24
    · exact ⟨hs, hl, (h.right hs hl).2⟩
    · have := (h.full hs hl).1; omega
  · obtain ⟨h1, h2⟩ := h.bad hs
    exact absurd h1.zero hs

theorem Closed.none {n c : NetL} {i o e : Int} (h : Closed n i o c e) (he : e ≠ 0) : c = ⟨0, []⟩ := by
  by_cases hs : ShapeOk n i o
  · by_cases hl : n.trans.length < 24
    · exact absurd (h.right hs hl).1 he
    · exact (h.full hs hl).2
  · exact (h.bad hs).2

theorem head_of {n : NetL} (h : netOk n = true) : 0 ≤ n.places ∧ n.places ≤ 16 ∧ n.trans.length ≤ 24 := by
  simp only [netOk, headOk, Bool.and_eq_true, decide_eq_true_eq] at h
  exact ⟨h.1.1.1, h.1.1.2, h.1.2⟩

theorem start_len {n : NetL} (h : netOk n = true) (i : Int) : ((startL n.places i).length : Int) = n.places := by
  obtain ⟨h0, h1, _⟩ := head_of h
  rw [start_length]; omega

theorem start_fits {n : NetL} (h : netOk n = true) (i : Int) : fitsL n (startL n.places i) = true := fits_mk h (start_len h i) (start_right _ _)

theorem mem_nth {xs : List Int} {x : Int} (h : x ∈ xs) : ∃ j, j < xs.length ∧ nth xs j = x := by
  obtain ⟨j, hj, e⟩ := List.getElem_of_mem h
  exact ⟨j, hj, by simp [nth, List.getD, List.getElem?_eq_getElem hj, e]⟩

theorem start_tran {n : NetL} (h : netOk n = true) (i o : Int) : tranOk n.places ⟨0, startL n.places o, startL n.places i⟩ = true := by
  have l1 := start_len h o
  have l2 := start_len h i
  simp only [tranOk, tranHead, Bool.and_eq_true, beq_iff_eq, decide_eq_true_eq, List.all_eq_true, List.mem_append]
  refine ⟨⟨⟨⟨by omega, by omega⟩, l1⟩, l2⟩, ?_⟩
  rintro x (hx | hx)
  all_goals
    obtain ⟨j, _, rfl⟩ := mem_nth hx
    simp only [weightOk, Bool.and_eq_true, decide_eq_true_eq]
  · have := start_bounds n.places o j; omega
  · have := start_bounds n.places i j; omega

theorem close_ok {n : NetL} (h : netOk n = true) (hl : n.trans.length < 24) (i o : Int) : netOk (closeL n i o) = true := by
  obtain ⟨h0, h1, _⟩ := head_of h
  have hs := start_tran h i o
  simp only [netOk, Bool.and_eq_true] at h
  simp only [netOk, headOk, closeL, Bool.and_eq_true, List.length_append, List.length_cons, List.length_nil, List.all_append, List.all_cons, List.all_nil]
  exact ⟨⟨⟨decide_eq_true h0, decide_eq_true h1⟩, decide_eq_true (by omega)⟩, h.2, hs, trivial⟩

theorem close_count (n : NetL) (i o : Int) : (closeL n i o).trans.length = n.trans.length + 1 := by simp [closeL]

theorem close_at (n : NetL) (i o : Int) {k : Nat} (hk : k < n.trans.length) : tranAt (closeL n i o).trans k = tranAt n.trans k := by
  unfold closeL tranAt List.getD
  simp [List.getElem?_append, hk]

theorem close_last (n : NetL) (i o : Int) : tranAt (closeL n i o).trans n.trans.length = ⟨0, startL n.places o, startL n.places i⟩ := by
  unfold closeL tranAt List.getD
  simp

theorem close_fits {n : NetL} (h : netOk n = true) (hl : n.trans.length < 24) (i o : Int) (m : List Int) : fitsL (closeL n i o) m = fitsL n m := by
  unfold fitsL
  rw [close_ok h hl, h]
  rfl

theorem close_fire {n : NetL} (h : netOk n = true) (hl : n.trans.length < 24) (i o : Int) (m : List Int) {t : Int} (ht : t ≠ n.trans.length) : fireL (closeL n i o) m t = fireL n m t := by
  unfold fireL
  rw [close_fits h hl, close_count]
  have e : decide (t < ((n.trans.length + 1 : Nat) : Int)) = decide (t < (n.trans.length : Int)) := by rw [decide_eq_decide]; omega
  rw [e]
  by_cases q : 0 ≤ t ∧ t < n.trans.length
  · rw [close_at n i o (show t.toNat < n.trans.length by omega)]
  · have f : (decide (0 ≤ t) && decide (t < (n.trans.length : Int))) = false := by
      rw [Bool.and_eq_false_iff, decide_eq_false_iff_not, decide_eq_false_iff_not]
      omega
    rw [f]
    simp

theorem close_run {n : NetL} (h : netOk n = true) (hl : n.trans.length < 24) (i o : Int) (seq : List Int) : ∀ (m : List Int), (n.trans.length : Int) ∉ seq → runL (closeL n i o) m seq = runL n m seq := by
  induction seq with
  | nil => intro m _; unfold runL; rw [close_fits h hl]
  | cons t ts ih =>
    intro m hm
    simp only [List.mem_cons, not_or] at hm
    rw [runL_cons, runL_cons, close_fits h hl, close_fire h hl i o m (fun e => hm.1 e.symm), ih _ hm.2]

/-- From the end the beginning is come to by one firing. -/
theorem close_round {n : NetL} (h : netOk n = true) (hl : n.trans.length < 24) (i o : Int) : fireL (closeL n i o) (startL n.places o) (n.trans.length : Nat) = (startL n.places i, 0) := by
  have hk : n.trans.length < (closeL n i o).trans.length := by rw [close_count]; omega
  have e : addL (subL (startL n.places o) (startL n.places o)) (startL n.places i) = startL n.places i := by
    refine eq_of_at ?_ fun j => ?_
    · rw [add_length, sub_length]
      simp only [start_length]
      omega
    · rw [add_at, sub_at]; omega
  have hf : fitsL (closeL n i o) (startL n.places o) = true := by rw [close_fits h hl]; exact start_fits h o
  have := fire_mk hk hf (by rw [close_last]; exact covers_self _) (by rw [close_last]; simp only; rw [e]; exact start_right _ _)
  rw [this, close_last]
  simp only
  rw [e]

/-- What was closed has no beginning. -/
theorem close_form {n : NetL} {i o : Int} (hs : ShapeOk n i o) (hl : n.trans.length < 24) : ¬ ShapeOk (closeL n i o) i o := by
  intro q
  have h1 := q.put n.trans.length (by rw [close_count]; omega)
  rw [close_last] at h1
  simp only at h1
  obtain ⟨h0, h16, _⟩ := head_of hs.ok
  have := hs.i0
  have := hs.i1
  rw [start_at n.places i i.toNat (by omega), if_pos (by omega)] at h1
  omega

theorem close_same (n : NetL) (i o : Int) : (closeL n i o).trans.take n.trans.length = n.trans := by simp [closeL]

/-! ### at the end nothing goes on -/
theorem end_none {n : NetL} {i o : Int} (hs : ShapeOk n i o) : canTo n (startL n.places o) n.trans.length = [] := by
  rw [List.eq_nil_iff_forall_not_mem]
  intro t ht
  obtain ⟨k, rfl, hk, hc⟩ := (can_mem n _ _ _).1 ht
  obtain ⟨p, _, hp⟩ := hs.t1 k hk
  have hcp := (coversL_iff _ _).1 hc p
  have hpo : (p : Int) ≠ o := fun e => hp (by have := hs.take k hk; rw [← e, Int.toNat_natCast] at this; exact this)
  have hb := (okTok_nth (tran_right (net_tran hs.ok hk)).1 p).1
  have : nth (startL n.places o) p = 0 := by
    by_cases q : p < (min n.places 16).toNat
    · rw [start_at _ _ _ q, if_neg hpo]
    · exact nth_past _ _ (by rw [start_length]; omega)
  omega

/-- Nothing comes to the beginning again. -/
theorem run_low {n : NetL} {i o : Int} (hs : ShapeOk n i o) (seq : List Int) : ∀ {m x : List Int}, runL n m seq = (x, 0) → nth m i.toNat = 0 → nth x i.toNat = 0 := by
  induction seq with
  | nil => intro m x h h0; obtain ⟨_, rfl⟩ := run_nil.1 h; exact h0
  | cons t ts ih =>
    intro m x h h0
    obtain ⟨y, h1, h2⟩ := run_cons.1 h
    refine ih h2 ?_
    obtain ⟨k, rfl, hk, hf, hc, hr, rfl⟩ := fire_ok h1
    have h3 := (coversL_iff _ _).1 hc i.toNat
    have h4 := (okTok_nth (tran_right (net_tran hs.ok hk)).1 i.toNat).1
    rw [add_at, sub_at, hs.put k hk]
    omega

theorem run_gone {n : NetL} {i o : Int} (hs : ShapeOk n i o) {seq x : List Int} (h : runL n (startL n.places i) seq = (x, 0)) (h0 : seq ≠ []) : nth x i.toNat = 0 := by
  cases seq with
  | nil => exact absurd rfl h0
  | cons t ts =>
    obtain ⟨y, h1, h2⟩ := run_cons.1 h
    refine run_low hs ts h2 ?_
    obtain ⟨k, rfl, hk, hf, hc, hr, rfl⟩ := fire_ok h1
    obtain ⟨p, _, hp⟩ := hs.t1 k hk
    have hcp := (coversL_iff _ _).1 hc p
    have hb := (okTok_nth (tran_right (net_tran hs.ok hk)).1 p).1
    have hsb := start_bounds n.places i p
    have hpi : (p : Int) = i := by
      by_cases q : p < (min n.places 16).toNat
      · rw [start_at _ _ _ q] at hcp
        by_cases e : (p : Int) = i
        · exact e
        · rw [if_neg e] at hcp; omega
      · rw [nth_past (startL n.places i) p (by rw [start_length]; omega)] at hcp; omega
    have : i.toNat = p := by omega
    rw [add_at, sub_at, hs.put k hk, this]
    omega

end Go.Proofs.Yteohpkicbkhpjaa
