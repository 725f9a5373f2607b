/- Plain facts on nets that fire: more tokens, two that change places, back again, one run behind another one. -/
import Derived.Test.YtjfcfnaeinhmcaaDoorNet4
import Derived.Test.YtjfcfnaeinhmcaaDoorNet6
import Derived.Test.YtjfcfnaeinhmcaaDoorMarks
namespace Go.Proofs.YtjfcfnaeinhmcaaDoor
set_option linter.unusedVariables false
set_option maxRecDepth 4000

/-- What firing asks, and what it comes to. -/
def Fires (n : NetL) (m : List Int) (t : Int) (m' : List Int) : Prop := fireL n m t = (m', 0)

theorem add_at (xs ys : List Int) (j : Nat) : nth (addL xs ys) j = nth xs j + nth ys j := sum_at xs ys j
theorem sub_at (xs ys : List Int) (j : Nat) : nth (subL xs ys) j = nth xs j - nth ys j := less_at xs ys j
theorem add_length (xs ys : List Int) : (addL xs ys).length = max xs.length ys.length := zipL_length _ _ _
theorem sub_length (xs ys : List Int) : (subL xs ys).length = max xs.length ys.length := zipL_length _ _ _

theorem fire_ok {n : NetL} {m m' : List Int} {t : Int} (h : fireL n m t = (m', 0)) :
    ∃ k : Nat, t = k ∧ k < n.trans.length ∧ fitsL n m = true ∧ coversL m (tranAt n.trans k).pre = true ∧ rightL m' = true ∧ m' = addL (subL m (tranAt n.trans k).pre) (tranAt n.trans k).post := by
  unfold fireL at h
  cases hf : fitsL n m
  · simp [hf] at h
  · simp only [hf, if_true] at h
    cases hc : (decide (0 ≤ t) && decide (t < n.trans.length) && coversL m (tranAt n.trans t.toNat).pre)
    · simp [hc] at h
    · simp only [hc, if_true] at h
      simp only [Bool.and_eq_true, decide_eq_true_eq] at hc
      obtain ⟨⟨h0, h1⟩, h2⟩ := hc
      obtain ⟨k, rfl⟩ := Int.eq_ofNat_of_zero_le h0
      rw [Int.toNat_natCast] at h h2
      cases hr : rightL (addL (subL m (tranAt n.trans k).pre) (tranAt n.trans k).post)
      · simp [hr] at h
      · simp only [hr, if_true, Prod.mk.injEq, and_true] at h
        subst h
        exact ⟨k, rfl, by omega, rfl, h2, hr, rfl⟩

theorem fire_mk {n : NetL} {m : List Int} {k : Nat} (hk : k < n.trans.length) (hf : fitsL n m = true) (hc : coversL m (tranAt n.trans k).pre = true)
    (hr : rightL (addL (subL m (tranAt n.trans k).pre) (tranAt n.trans k).post) = true) : fireL n m k = (addL (subL m (tranAt n.trans k).pre) (tranAt n.trans k).post, 0) := by
  unfold fireL
  rw [hf, decide_eq_true (show (0 : Int) ≤ k by omega), decide_eq_true (show (k : Int) < n.trans.length by omega), Int.toNat_natCast, hc, hr]
  rfl

theorem fits_mk {n : NetL} {m : List Int} (hn : netOk n = true) (hl : (m.length : Int) = n.places) (hr : rightL m = true) : fitsL n m = true := by
  simp [fitsL, hn, hl, hr]

theorem tran_length {n : NetL} (hn : netOk n = true) {k : Nat} (hk : k < n.trans.length) :
    ((tranAt n.trans k).pre.length : Int) = n.places ∧ ((tranAt n.trans k).post.length : Int) = n.places := by
  have h := net_tran hn hk
  simp only [tranOk, tranHead, Bool.and_eq_true, beq_iff_eq] at h
  exact ⟨h.1.1.2, h.1.2⟩

/-- What comes of a firing is a mark of the net. -/
theorem fire_fits {n : NetL} {m m' : List Int} {t : Int} (h : fireL n m t = (m', 0)) : fitsL n m' = true := by
  obtain ⟨k, rfl, hk, hf, hc, hr, rfl⟩ := fire_ok h
  obtain ⟨hn, hl, _⟩ := fits_net hf
  obtain ⟨l1, l2⟩ := tran_length hn hk
  exact fits_mk hn (by rw [add_length, sub_length]; omega) hr

theorem fire_err {n : NetL} {m : List Int} {t : Int} (h : (fireL n m t).2 ≠ 0) : (fireL n m t).1 = [] := by
  unfold fireL at h ⊢
  split at h
  · split at h
    · split at h
      · exact absurd rfl h
      · rename_i h1 h2 h3; simp [h1, h2, h3]
    · rename_i h1 h2; simp [h1, h2]
  · rename_i h1; simp [h1]

theorem run_err {n : NetL} (seq : List Int) : ∀ {m : List Int}, (runL n m seq).2 ≠ 0 → (runL n m seq).1 = [] := by
  induction seq with
  | nil =>
    intro m h
    unfold runL at h ⊢
    split at h
    · exact absurd rfl h
    · rename_i h1; simp [h1]
  | cons t ts ih =>
    intro m h
    unfold runL at h ⊢
    cases hf : fitsL n m
    · simp
    · simp only [hf, if_true] at h ⊢
      cases hq : ((fireL n m t).2 == 0)
      · simp
      · simp only [hq, if_true] at h ⊢
        exact ih h

/-- A run that can be done, step by step. -/
theorem run_cons {n : NetL} {m m' : List Int} {t : Int} {ts : List Int} : runL n m (t :: ts) = (m', 0) ↔ ∃ x, fireL n m t = (x, 0) ∧ runL n x ts = (m', 0) := by
  constructor
  · intro h
    unfold runL at h
    cases hf : fitsL n m
    · simp [hf] at h
    · simp only [hf, if_true] at h
      cases hq : ((fireL n m t).2 == 0)
      · simp only [hq] at h
        have : (fireL n m t).2 = 0 := by simpa using congrArg Prod.snd h
        simp [this] at hq
      · simp only [hq, if_true] at h
        exact ⟨(fireL n m t).1, Prod.ext rfl (by simpa using hq), h⟩
  · rintro ⟨x, h1, h2⟩
    obtain ⟨_, _, _, hf, _⟩ := fire_ok h1
    unfold runL
    simp [hf, h1, h2]

theorem run_nil {n : NetL} {m m' : List Int} : runL n m [] = (m', 0) ↔ fitsL n m = true ∧ m' = m := by
  unfold runL
  cases hf : fitsL n m
  · simp
  · simp [eq_comm]

theorem run_fits {n : NetL} (seq : List Int) : ∀ {m m' : List Int}, runL n m seq = (m', 0) → fitsL n m = true ∧ fitsL n m' = true := by
  induction seq with
  | nil => intro m m' h; obtain ⟨h1, rfl⟩ := run_nil.1 h; exact ⟨h1, h1⟩
  | cons t ts ih =>
    intro m m' h
    obtain ⟨x, h1, h2⟩ := run_cons.1 h
    obtain ⟨_, _, _, hf, _⟩ := fire_ok h1
    exact ⟨hf, (ih h2).2⟩

theorem eq_of_at {xs ys : List Int} (hl : xs.length = ys.length) (h : ∀ j, nth xs j = nth ys j) : xs = ys := eq_of_nth xs ys hl fun j _ => h j

/-! With more. -/

theorem post_le {n : NetL} (hn : netOk n = true) {k : Nat} (hk : k < n.trans.length) (j : Nat) :
    0 ≤ nth (tranAt n.trans k).pre j ∧ nth (tranAt n.trans k).pre j ≤ 9 ∧ 0 ≤ nth (tranAt n.trans k).post j ∧ nth (tranAt n.trans k).post j ≤ 9 := by
  have h := net_tran hn hk
  simp only [tranOk, Bool.and_eq_true, List.all_append] at h
  have one : ∀ xs : List Int, xs.all weightOk = true → 0 ≤ nth xs j ∧ nth xs j ≤ 9 := by
    intro xs hx
    by_cases hj : j < xs.length
    · have := List.all_eq_true.1 hx _ (List.getElem_mem hj)
      simp only [weightOk, Bool.and_eq_true, decide_eq_true_eq] at this
      simp only [nth, List.getD, List.getElem?_eq_getElem hj, Option.getD_some]
      omega
    · rw [nth_past xs j (by omega)]; omega
  have h1 := one _ h.2.1
  have h2 := one _ h.2.2
  omega

theorem fire_more {n : NetL} {m m' d : List Int} {t : Int} (h : fireL n m t = (m', 0)) (hl : d.length = m.length) (h0 : ∀ j, 0 ≤ nth d j) (hb : ∀ j, nth m j + nth d j + 9 ≤ 1000000) :
    fireL n (addL m d) t = (addL m' d, 0) ∧ (∀ j, nth m' j ≤ nth m j + 9) ∧ m'.length = m.length := by
  obtain ⟨k, rfl, hk, hf, hc, hr, rfl⟩ := fire_ok h
  obtain ⟨hn, hlen, hm⟩ := fits_net hf
  obtain ⟨l1, l2⟩ := tran_length hn hk
  rw [rightL_iff] at hm hr
  rw [coversL_iff] at hc
  have hp := post_le hn hk
  have hlen2 : ∀ xs ys : List Int, (addL xs ys).length = max xs.length ys.length := add_length
  have hf' : fitsL n (addL m d) = true := fits_mk hn (by rw [add_length]; omega) ((rightL_iff _).2 fun j => by
    have := hm j; have := h0 j; have := hb j; rw [add_at]; omega)
  have hc' : coversL (addL m d) (tranAt n.trans k).pre = true := (coversL_iff _ _).2 fun j => by
    have := hc j; have := h0 j; rw [add_at]; omega
  have e : addL (subL (addL m d) (tranAt n.trans k).pre) (tranAt n.trans k).post = addL (addL (subL m (tranAt n.trans k).pre) (tranAt n.trans k).post) d := by
    refine eq_of_at (by simp only [add_length, sub_length]; omega) fun j => ?_
    simp only [add_at, sub_at]; omega
  refine ⟨?_, fun j => by have := hp j; have := hc j; rw [add_at, sub_at]; omega, by rw [add_length, sub_length]; omega⟩
  rw [fire_mk hk hf' hc' (by
    rw [e, rightL_iff]
    intro j
    have := hr j; have := h0 j; have := hb j; have := hp j
    simp only [add_at, sub_at] at *
    omega), e]

theorem run_more {n : NetL} (seq : List Int) : ∀ {m m' d : List Int}, runL n m seq = (m', 0) → d.length = m.length → (∀ j, 0 ≤ nth d j) → (∀ j, nth m j + nth d j + 9 * seq.length ≤ 1000000) →
    runL n (addL m d) seq = (addL m' d, 0) ∧ (∀ j, nth m' j ≤ nth m j + 9 * seq.length) ∧ m'.length = m.length := by
  induction seq with
  | nil =>
    intro m m' d h hl h0 hb
    obtain ⟨hf, rfl⟩ := run_nil.1 h
    obtain ⟨hn, hlen, hm⟩ := fits_net hf
    refine ⟨run_nil.2 ⟨fits_mk hn (by rw [add_length]; omega) ((rightL_iff _).2 fun j => ?_), rfl⟩, fun j => by simp, rfl⟩
    have := (rightL_iff _).1 hm j; have := h0 j; have := hb j
    rw [add_at]
    simp only [List.length_nil] at *
    omega
  | cons t ts ih =>
    intro m m' d h hl h0 hb
    obtain ⟨x, h1, h2⟩ := run_cons.1 h
    simp only [List.length_cons] at hb ⊢
    obtain ⟨g1, g2, g3⟩ := fire_more h1 hl h0 (fun j => by have := hb j; omega)
    obtain ⟨k1, k2, k3⟩ := ih h2 (by omega) h0 (fun j => by have := hb j; have := g2 j; omega)
    exact ⟨run_cons.2 ⟨_, g1, k1⟩, fun j => by have := k2 j; have := g2 j; omega, by omega⟩

/-! Two that change places. -/

theorem fire_two {n : NetL} {m : List Int} {t u : Nat} (hn : netOk n = true) (ht : t < n.trans.length) (hu : u < n.trans.length) (hl : (m.length : Int) = n.places) (hm : rightL m = true) (hb : ∀ j, nth m j ≤ 900000)
    (hc : ∀ j, nth (tranAt n.trans t).pre j + nth (tranAt n.trans u).pre j ≤ nth m j) :
    ∃ z, runL n m [(t : Int), (u : Int)] = (z, 0) ∧ z.length = m.length ∧ ∀ j, nth z j = nth m j - nth (tranAt n.trans t).pre j + nth (tranAt n.trans t).post j - nth (tranAt n.trans u).pre j + nth (tranAt n.trans u).post j := by
  have pt := post_le hn ht
  have pu := post_le hn hu
  obtain ⟨l1, l2⟩ := tran_length hn ht
  obtain ⟨l3, l4⟩ := tran_length hn hu
  have hm' := (rightL_iff _).1 hm
  have f1 := fire_mk (m := m) ht (fits_mk hn hl hm) ((coversL_iff _ _).2 fun j => by have := hc j; have := pu j; omega) ((rightL_iff _).2 fun j => by
    have := hc j; have := pt j; have := pu j; have := hb j; have := hm' j; rw [add_at, sub_at]; omega)
  have ff := fire_fits f1
  have f2 := fire_mk hu ff ((coversL_iff _ _).2 fun j => by have := hc j; have := pt j; rw [add_at, sub_at]; omega) ((rightL_iff _).2 fun j => by
    have := hc j; have := pt j; have := pu j; have := hb j; have := hm' j; simp only [add_at, sub_at]; omega)
  refine ⟨_, run_cons.2 ⟨_, f1, run_cons.2 ⟨_, f2, run_nil.2 ⟨fire_fits f2, rfl⟩⟩⟩, by simp only [add_length, sub_length]; omega, fun j => by simp only [add_at, sub_at]⟩

theorem fire_swap {n : NetL} {m : List Int} {t u : Nat} (hn : netOk n = true) (ht : t < n.trans.length) (hu : u < n.trans.length) (hl : (m.length : Int) = n.places) (hm : rightL m = true) (hb : ∀ j, nth m j ≤ 900000)
    (hc : ∀ j, nth (tranAt n.trans t).pre j + nth (tranAt n.trans u).pre j ≤ nth m j) :
    ∃ z, runL n m [(t : Int), (u : Int)] = (z, 0) ∧ runL n m [(u : Int), (t : Int)] = (z, 0) := by
  obtain ⟨z, h1, h2, h3⟩ := fire_two hn ht hu hl hm hb hc
  obtain ⟨y, k1, k2, k3⟩ := fire_two hn hu ht hl hm hb (fun j => by have := hc j; omega)
  have e : y = z := eq_of_at (by omega) fun j => by rw [h3 j, k3 j]; omega
  exact ⟨z, h1, e ▸ k1⟩

/-! Back again. -/

theorem runL_cons (n : NetL) (m : List Int) (t : Int) (ts : List Int) : runL n m (t :: ts) = if fitsL n m then (if (fireL n m t).2 == 0 then runL n (fireL n m t).1 ts else ([], (fireL n m t).2)) else ([], 2) := rfl

theorem run_append {n : NetL} (a : List Int) : ∀ {m : List Int} (b : List Int), runL n m (a ++ b) = if (runL n m a).2 == 0 then runL n (runL n m a).1 b else ([], (runL n m a).2) := by
  induction a with
  | nil =>
    intro m b
    cases hf : fitsL n m
    · have e : runL n m [] = ([], 2) := by simp [runL, hf]
      rw [e, List.nil_append]
      cases b <;> simp [runL, hf]
    · have e : runL n m [] = (m, 0) := by simp [runL, hf]
      rw [e]; rfl
  | cons t ts ih =>
    intro m b
    rw [List.cons_append, runL_cons, runL_cons]
    cases hf : fitsL n m
    · simp
    · simp only [if_true]
      cases hq : ((fireL n m t).2 == 0)
      · simp [hq]
      · simp only [if_true]
        exact ih b

theorem turn_turn (t : TranL) : turnT (turnT t) = t := rfl
theorem turn_ok (n : NetL) (h : netOk n = true) : netOk (turnL n) = true := by
  simp only [netOk, headOk, Bool.and_eq_true, decide_eq_true_eq] at h ⊢
  refine ⟨⟨h.1.1, by simp [turnL]; exact h.1.2⟩, ?_⟩
  rw [List.all_eq_true] at h ⊢
  intro t ht
  obtain ⟨s, hs, rfl⟩ := List.mem_map.1 ht
  have := h.2 s hs
  simp only [tranOk, tranHead, turnT, turnL, Bool.and_eq_true, List.all_append] at this ⊢
  exact ⟨⟨⟨this.1.1.1, this.1.2⟩, this.1.1.2⟩, this.2.2, this.2.1⟩

theorem fire_back {n : NetL} {m m' : List Int} {t : Int} (h : fireL n m t = (m', 0)) : fireL (turnL n) m' t = (m, 0) := by
  have hf' := fire_fits h
  obtain ⟨k, rfl, hk, hf, hc, hr, rfl⟩ := fire_ok h
  obtain ⟨hn, hlen, hm⟩ := fits_net hf
  obtain ⟨l1, l2⟩ := tran_length hn hk
  have hc' := (coversL_iff _ _).1 hc
  have ea : tranAt (turnL n).trans k = turnT (tranAt n.trans k) := turn_at _ _ hk
  have e : addL (subL (addL (subL m (tranAt n.trans k).pre) (tranAt n.trans k).post) (tranAt n.trans k).post) (tranAt n.trans k).pre = m := by
    refine eq_of_at (by simp only [add_length, sub_length]; omega) fun j => ?_
    simp only [add_at, sub_at]; omega
  have hft : fitsL (turnL n) (addL (subL m (tranAt n.trans k).pre) (tranAt n.trans k).post) = true := by
    obtain ⟨_, q1, q2⟩ := fits_net hf'
    exact fits_mk (turn_ok n hn) q1 q2
  have := fire_mk (n := turnL n) (k := k) (by simpa [turnL] using hk) hft (by
    rw [ea, coversL_iff]; intro j; have := hc' j; simp only [turnT, add_at, sub_at]; omega) (by
    rw [ea]; show rightL (addL (subL _ (tranAt n.trans k).post) (tranAt n.trans k).pre) = true; rw [e]; exact hm)
  rw [this, ea]
  show (addL (subL _ (tranAt n.trans k).post) (tranAt n.trans k).pre, (0 : Int)) = _
  rw [e]

theorem run_back {n : NetL} (seq : List Int) : ∀ {m x : List Int}, runL n m seq = (x, 0) → runL (turnL n) x seq.reverse = (m, 0) := by
  induction seq with
  | nil =>
    intro m x h
    obtain ⟨hf, rfl⟩ := run_nil.1 h
    obtain ⟨hn, q1, q2⟩ := fits_net hf
    exact run_nil.2 ⟨fits_mk (turn_ok n hn) q1 q2, rfl⟩
  | cons t ts ih =>
    intro m x h
    obtain ⟨y, h1, h2⟩ := run_cons.1 h
    have h3 := ih h2
    rw [List.reverse_cons, run_append, h3]
    have h4 := fire_back h1
    exact run_cons.2 ⟨_, h4, run_nil.2 ⟨fire_fits h4, rfl⟩⟩

/-! Who can, and who fires. -/

theorem can_mem (n : NetL) (m : List Int) (k : Nat) (t : Int) : t ∈ canTo n m k ↔ ∃ j : Nat, t = j ∧ j < k ∧ coversL m (tranAt n.trans j).pre = true := by
  simp only [canTo, List.mem_map, List.mem_filter, List.mem_range]
  exact ⟨fun ⟨j, ⟨h1, h2⟩, h3⟩ => ⟨j, h3.symm, h1, h2⟩, fun ⟨j, h3, h1, h2⟩ => ⟨j, ⟨h1, h2⟩, h3.symm⟩⟩

theorem can_fire {n : NetL} {m : List Int} (hf : fitsL n m = true) (t : Int) : (canTo n m n.trans.length).contains t = ((fireL n m t).2 != 3) := by
  rw [Bool.eq_iff_iff, List.contains_iff_mem, can_mem, bne_iff_ne]
  constructor
  · rintro ⟨j, rfl, hj, hc⟩
    unfold fireL
    rw [hf, decide_eq_true (show (0 : Int) ≤ j by omega), decide_eq_true (show (j : Int) < n.trans.length by omega), Int.toNat_natCast, hc]
    simp only [Bool.and_self, if_true]
    split <;> simp
  · intro h
    unfold fireL at h
    rw [hf] at h
    cases hc : (decide (0 ≤ t) && decide (t < n.trans.length) && coversL m (tranAt n.trans t.toNat).pre)
    · simp [hc] at h
    · simp only [Bool.and_eq_true, decide_eq_true_eq] at hc
      obtain ⟨⟨h0, h1⟩, h2⟩ := hc
      obtain ⟨k, rfl⟩ := Int.eq_ofNat_of_zero_le h0
      rw [Int.toNat_natCast] at h2
      exact ⟨k, rfl, by omega, h2⟩

theorem not_fits {n : NetL} {m : List Int} (hf : fitsL n m = false) (t : Int) : fireL n m t = ([], 2) := by simp [fireL, hf]

end Go.Proofs.YtjfcfnaeinhmcaaDoor
