import Derived.Test.YteoofibhpifmlaaDoorMarkAll
import Derived.Test.YteoofibhpifmlaaDoorNetAll
import Derived.Test.YteoofibhpifmlaaDoorNetBoth
/- Plain facts on marks as lists: sums, differences, covering. -/
namespace Go.Proofs.YteoofibhpifmlaaDoor
set_option linter.unusedVariables false
set_option maxRecDepth 4000

theorem zip_comm (xs ys : List Int) : zipL (fun x1 x2 => x1 + x2) ys xs = zipL (fun x1 x2 => x1 + x2) xs ys := by
  simp only [zipL, Nat.max_comm ys.length xs.length]; congr 1; funext p; omega

theorem plusL_comm (xs ys : List Int) : plusL ys xs = plusL xs ys := by
  unfold plusL; rw [zip_comm, Bool.and_comm]

theorem sum_at (xs ys : List Int) (j : Nat) : nth (zipL (fun x1 x2 => x1 + x2) xs ys) j = nth xs j + nth ys j := zipL_at _ rfl _ _ _
theorem less_at (xs ys : List Int) (j : Nat) : nth (zipL (fun x1 x2 => x1 - x2) xs ys) j = nth xs j - nth ys j := zipL_at _ rfl _ _ _

/-- What an answer of Plus can be. -/
theorem plusL_cases (xs ys : List Int) : (plusL xs ys = (zipL (fun x1 x2 => x1 + x2) xs ys, 0) ∧ rightL xs = true ∧ rightL ys = true ∧ rightL (zipL (fun x1 x2 => x1 + x2) xs ys) = true) ∨
    (∃ c, plusL xs ys = ([], c) ∧ c ≠ 0) := by
  cases hx : rightL xs
  · exact .inr ⟨2, plusL_range1 hx, by decide⟩
  cases hy : rightL ys
  · exact .inr ⟨2, plusL_range2 hy, by decide⟩
  cases hz : rightL (zipL (fun x1 x2 => x1 + x2) xs ys)
  · exact .inr ⟨4, plusL_full hx hy hz, by decide⟩
  · exact .inl ⟨plusL_ok hx hy hz, rfl, rfl, rfl⟩

theorem covers_self (xs : List Int) : coversL xs xs = true := (coversL_iff _ _).2 fun j => Int.le_refl _
theorem covers_sum {xs ys : List Int} (hy : rightL ys = true) : coversL (zipL (fun x1 x2 => x1 + x2) xs ys) xs = true :=
  (coversL_iff _ _).2 fun j => by have := (rightL_iff _).1 hy j; rw [sum_at]; omega
theorem covers_sum2 {xs ys : List Int} (hx : rightL xs = true) : coversL (zipL (fun x1 x2 => x1 + x2) xs ys) ys = true :=
  (coversL_iff _ _).2 fun j => by have := (rightL_iff _).1 hx j; rw [sum_at]; omega

theorem sameL_iff (xs ys : List Int) : (coversL xs ys && coversL ys xs) = true ↔ ∀ j, nth xs j = nth ys j := by
  rw [Bool.and_eq_true, coversL_iff, coversL_iff]
  exact ⟨fun ⟨h, k⟩ j => by have := h j; have := k j; omega, fun h => ⟨fun j => by rw [h j]; omega, fun j => by rw [h j]; omega⟩⟩

/-- What was added is taken away again. -/
theorem minus_sum {xs ys : List Int} (hx : rightL xs = true) (hy : rightL ys = true) (hz : rightL (zipL (fun x1 x2 => x1 + x2) xs ys) = true) :
    ∃ zz, minusL (zipL (fun x1 x2 => x1 + x2) xs ys) ys = (zz, 0) ∧ (coversL zz xs && coversL xs zz) = true :=
  ⟨_, minusL_ok hz hy (covers_sum2 hx), (sameL_iff _ _).2 fun j => by rw [less_at, sum_at]; omega⟩

/-- In whatever order. -/
theorem plus_assoc {xs ys cs : List Int} (hx : rightL xs = true) (hy : rightL ys = true) (h : (plusL (zipL (fun x1 x2 => x1 + x2) xs ys) cs).2 = 0) :
    (plusL ys cs).2 = 0 ∧ (plusL xs (plusL ys cs).1).2 = 0 ∧
      (coversL (plusL (zipL (fun x1 x2 => x1 + x2) xs ys) cs).1 (plusL xs (plusL ys cs).1).1 && coversL (plusL xs (plusL ys cs).1).1 (plusL (zipL (fun x1 x2 => x1 + x2) xs ys) cs).1) = true := by
  rcases plusL_cases (zipL (fun x1 x2 => x1 + x2) xs ys) cs with ⟨e, _, hc, hr⟩ | ⟨c, e, hc⟩
  · have hr' := (rightL_iff _).1 hr
    have hx' := (rightL_iff _).1 hx
    have hy' := (rightL_iff _).1 hy
    have hc' := (rightL_iff _).1 hc
    have h1 : rightL (zipL (fun x1 x2 => x1 + x2) ys cs) = true := (rightL_iff _).2 fun j => by
      have := hr' j; have := hx' j; have := hy' j; have := hc' j
      simp only [sum_at] at *; omega
    have e1 := plusL_ok hy hc h1
    have h2 : rightL (zipL (fun x1 x2 => x1 + x2) xs (zipL (fun x1 x2 => x1 + x2) ys cs)) = true := (rightL_iff _).2 fun j => by
      have := hr' j
      simp only [sum_at] at *; omega
    have e2 := plusL_ok hx h1 h2
    refine ⟨by rw [e1], by rw [e1]; exact congrArg Prod.snd e2, ?_⟩
    rw [e, e1]
    show (coversL _ (plusL xs (zipL (fun x1 x2 => x1 + x2) ys cs)).1 && coversL (plusL xs (zipL (fun x1 x2 => x1 + x2) ys cs)).1 _) = true
    rw [e2]
    exact (sameL_iff _ _).2 fun j => by rw [sum_at, sum_at, sum_at, sum_at]; omega
  · rw [e] at h; exact absurd h hc

/-- What was taken away is added again. -/
theorem plus_less {xs ys : List Int} (hx : rightL xs = true) (hy : rightL ys = true) (hc : coversL xs ys = true) :
    ∃ zz, plusL (zipL (fun x1 x2 => x1 - x2) xs ys) ys = (zz, 0) ∧ (coversL zz xs && coversL xs zz) = true := by
  have h1 : rightL (zipL (fun x1 x2 => x1 - x2) xs ys) = true := by rw [right_minus hx hy]; exact hc
  have h2 : rightL (zipL (fun x1 x2 => x1 + x2) (zipL (fun x1 x2 => x1 - x2) xs ys) ys) = true := (rightL_iff _).2 fun j => by
    have := (rightL_iff _).1 hx j
    rw [sum_at, less_at]; omega
  exact ⟨_, plusL_ok h1 hy h2, (sameL_iff _ _).2 fun j => by rw [sum_at, less_at]; omega⟩

theorem covers_trans {xs ys cs : List Int} (h : coversL xs ys = true) (k : coversL ys cs = true) : coversL xs cs = true :=
  (coversL_iff _ _).2 fun j => Int.le_trans ((coversL_iff _ _).1 k j) ((coversL_iff _ _).1 h j)

end Go.Proofs.YteoofibhpifmlaaDoor

/- Plain facts on nets that fire: more tokens, two that change places, back again, one run behind another one. -/
namespace Go.Proofs.YteoofibhpifmlaaDoor
set_option linter.unusedVariables false
set_option maxRecDepth 4000

/-- What firing asks, and what it comes to. -/
def Fires (n : NetL) (m : List Int) (t : Int) (m' : List Int) : Prop := fireL n m t = (m', 0)

theorem add_at (xs ys : List Int) (j : Nat) : nth (addL xs ys) j = nth xs j + nth ys j := sum_at xs ys j
theorem sub_at (xs ys : List Int) (j : Nat) : nth (subL xs ys) j = nth xs j - nth ys j := less_at xs ys j
theorem add_length (xs ys : List Int) : (addL xs ys).length = max xs.length ys.length := zipL_length _ _ _
theorem sub_length (xs ys : List Int) : (subL xs ys).length = max xs.length ys.length := zipL_length _ _ _

theorem fire_ok {n : NetL} {m m' : List Int} {t : Int} (h : fireL n m t = (m', 0)) :
    ∃ k : Nat, t = k ∧ k < n.trans.length ∧ fitsL n m = true ∧ coversL m (tranAt n.trans k).pre = true ∧ rightL m' = true ∧ m' = addL (subL m (tranAt n.trans k).pre) (tranAt n.trans k).post := by
  unfold fireL at h
  cases hf : fitsL n m
  · simp [hf] at h
  · simp only [hf, if_true] at h
    cases hc : (decide (0 ≤ t) && decide (t < n.trans.length) && coversL m (tranAt n.trans t.toNat).pre)
    · simp [hc] at h
    · simp only [hc, if_true] at h
      simp only [Bool.and_eq_true, decide_eq_true_eq] at hc
      obtain ⟨⟨h0, h1⟩, h2⟩ := hc
      obtain ⟨k, rfl⟩ := Int.eq_ofNat_of_zero_le h0
      rw [Int.toNat_natCast] at h h2
      cases hr : rightL (addL (subL m (tranAt n.trans k).pre) (tranAt n.trans k).post)
      · simp [hr] at h
      · simp only [hr, if_true, Prod.mk.injEq, and_true] at h
        subst h
        exact ⟨k, rfl, by omega, rfl, h2, hr, rfl⟩

theorem fire_mk {n : NetL} {m : List Int} {k : Nat} (hk : k < n.trans.length) (hf : fitsL n m = true) (hc : coversL m (tranAt n.trans k).pre = true)
    (hr : rightL (addL (subL m (tranAt n.trans k).pre) (tranAt n.trans k).post) = true) : fireL n m k = (addL (subL m (tranAt n.trans k).pre) (tranAt n.trans k).post, 0) := by
  unfold fireL
  rw [hf, decide_eq_true (show (0 : Int) ≤ k by omega), decide_eq_true (show (k : Int) < n.trans.length by omega), Int.toNat_natCast, hc, hr]
  rfl

theorem fits_mk {n : NetL} {m : List Int} (hn : netOk n = true) (hl : (m.length : Int) = n.places) (hr : rightL m = true) : fitsL n m = true := by
  simp [fitsL, hn, hl, hr]

theorem tran_length {n : NetL} (hn : netOk n = true) {k : Nat} (hk : k < n.trans.length) :
    ((tranAt n.trans k).pre.length : Int) = n.places ∧ ((tranAt n.trans k).post.length : Int) = n.places := by
  have h := net_tran hn hk
  simp only [tranOk, tranHead, Bool.and_eq_true, beq_iff_eq] at h
  exact ⟨h.1.1.2, h.1.2⟩

/-- What comes of a firing is a mark of the net. -/
theorem fire_fits {n : NetL} {m m' : List Int} {t : Int} (h : fireL n m t = (m', 0)) : fitsL n m' = true := by
  obtain ⟨k, rfl, hk, hf, hc, hr, rfl⟩ := fire_ok h
  obtain ⟨hn, hl, _⟩ := fits_net hf
  obtain ⟨l1, l2⟩ := tran_length hn hk
  exact fits_mk hn (by rw [add_length, sub_length]; omega) hr

theorem fire_err {n : NetL} {m : List Int} {t : Int} (h : (fireL n m t).2 ≠ 0) : (fireL n m t).1 = [] := by
  unfold fireL at h ⊢
  split at h
  · split at h
    · split at h
      · exact absurd rfl h
      · rename_i h1 h2 h3; simp [h1, h2, h3]
    · rename_i h1 h2; simp [h1, h2]
  · rename_i h1; simp [h1]

theorem run_err {n : NetL} (seq : List Int) : ∀ {m : List Int}, (runL n m seq).2 ≠ 0 → (runL n m seq).1 = [] := by
  induction seq with
  | nil =>
    intro m h
    unfold runL at h ⊢
    split at h
    · exact absurd rfl h
    · rename_i h1; simp [h1]
  | cons t ts ih =>
    intro m h
    unfold runL at h ⊢
    cases hf : fitsL n m
    · simp
    · simp only [hf, if_true] at h ⊢
      cases hq : ((fireL n m t).2 == 0)
      · simp
      · simp only [hq, if_true] at h ⊢
        exact ih h

/-- A run that can be done, step by step. -/
theorem run_cons {n : NetL} {m m' : List Int} {t : Int} {ts : List Int} : runL n m (t :: ts) = (m', 0) ↔ ∃ x, fireL n m t = (x, 0) ∧ runL n x ts = (m', 0) := by
  constructor
  · intro h
    unfold runL at h
    cases hf : fitsL n m
    · simp [hf] at h
    · simp only [hf, if_true] at h
      cases hq : ((fireL n m t).2 == 0)
      · simp only [hq] at h
        have : (fireL n m t).2 = 0 := by simpa using congrArg Prod.snd h
        simp [this] at hq
      · simp only [hq, if_true] at h
        exact ⟨(fireL n m t).1, Prod.ext rfl (by simpa using hq), h⟩
  · rintro ⟨x, h1, h2⟩
    obtain ⟨_, _, _, hf, _⟩ := fire_ok h1
    unfold runL
    simp [hf, h1, h2]

theorem run_nil {n : NetL} {m m' : List Int} : runL n m [] = (m', 0) ↔ fitsL n m = true ∧ m' = m := by
  unfold runL
  cases hf : fitsL n m
  · simp
  · simp [eq_comm]

theorem run_fits {n : NetL} (seq : List Int) : ∀ {m m' : List Int}, runL n m seq = (m', 0) → fitsL n m = true ∧ fitsL n m' = true := by
  induction seq with
  | nil => intro m m' h; obtain ⟨h1, rfl⟩ := run_nil.1 h; exact ⟨h1, h1⟩
  | cons t ts ih =>
    intro m m' h
    obtain ⟨x, h1, h2⟩ := run_cons.1 h
    obtain ⟨_, _, _, hf, _⟩ := fire_ok h1
    exact ⟨hf, (ih h2).2⟩

theorem eq_of_at {xs ys : List Int} (hl : xs.length = ys.length) (h : ∀ j, nth xs j = nth ys j) : xs = ys := eq_of_nth xs ys hl fun j _ => h j

/-! With more. -/

theorem post_le {n : NetL} (hn : netOk n = true) {k : Nat} (hk : k < n.trans.length) (j : Nat) :
    0 ≤ nth (tranAt n.trans k).pre j ∧ nth (tranAt n.trans k).pre j ≤ 9 ∧ 0 ≤ nth (tranAt n.trans k).post j ∧ nth (tranAt n.trans k).post j ≤ 9 := by
  have h := net_tran hn hk
  simp only [tranOk, Bool.and_eq_true, List.all_append] at h
  have one : ∀ xs : List Int, xs.all weightOk = true → 0 ≤ nth xs j ∧ nth xs j ≤ 9 := by
    intro xs hx
    by_cases hj : j < xs.length
    · have := List.all_eq_true.1 hx _ (List.getElem_mem hj)
      simp only [weightOk, Bool.and_eq_true, decide_eq_true_eq] at this
      simp only [nth, List.getD, List.getElem?_eq_getElem hj, Option.getD_some]
      omega
    · rw [nth_past xs j (by omega)]; omega
  have h1 := one _ h.2.1
  have h2 := one _ h.2.2
  omega

theorem fire_more {n : NetL} {m m' d : List Int} {t : Int} (h : fireL n m t = (m', 0)) (hl : d.length = m.length) (h0 : ∀ j, 0 ≤ nth d j) (hb : ∀ j, nth m j + nth d j + 9 ≤ 1000000) :
    fireL n (addL m d) t = (addL m' d, 0) ∧ (∀ j, nth m' j ≤ nth m j + 9) ∧ m'.length = m.length := by
  obtain ⟨k, rfl, hk, hf, hc, hr, rfl⟩ := fire_ok h
  obtain ⟨hn, hlen, hm⟩ := fits_net hf
  obtain ⟨l1, l2⟩ := tran_length hn hk
  rw [rightL_iff] at hm hr
  rw [coversL_iff] at hc
  have hp := post_le hn hk
  have hlen2 : ∀ xs ys : List Int, (addL xs ys).length = max xs.length ys.length := add_length
  have hf' : fitsL n (addL m d) = true := fits_mk hn (by rw [add_length]; omega) ((rightL_iff _).2 fun j => by
    have := hm j; have := h0 j; have := hb j; rw [add_at]; omega)
  have hc' : coversL (addL m d) (tranAt n.trans k).pre = true := (coversL_iff _ _).2 fun j => by
    have := hc j; have := h0 j; rw [add_at]; omega
  have e : addL (subL (addL m d) (tranAt n.trans k).pre) (tranAt n.trans k).post = addL (addL (subL m (tranAt n.trans k).pre) (tranAt n.trans k).post) d := by
    refine eq_of_at (by simp only [add_length, sub_length]; omega) fun j => ?_
    simp only [add_at, sub_at]; omega
  refine ⟨?_, fun j => by have := hp j; have := hc j; rw [add_at, sub_at]; omega, by rw [add_length, sub_length]; omega⟩
  rw [fire_mk hk hf' hc' (by
    rw [e, rightL_iff]
    intro j
    have := hr j; have := h0 j; have := hb j; have := hp j
    simp only [add_at, sub_at] at *
    omega), e]

theorem run_more {n : NetL} (seq : List Int) : ∀ {m m' d : List Int}, runL n m seq = (m', 0) → d.length = m.length → (∀ j, 0 ≤ nth d j) → (∀ j, nth m j + nth d j + 9 * seq.length ≤ 1000000) →
    runL n (addL m d) seq = (addL m' d, 0) ∧ (∀ j, nth m' j ≤ nth m j + 9 * seq.length) ∧ m'.length = m.length := by
  induction seq with
  | nil =>
    intro m m' d h hl h0 hb
    obtain ⟨hf, rfl⟩ := run_nil.1 h
    obtain ⟨hn, hlen, hm⟩ := fits_net hf
    refine ⟨run_nil.2 ⟨fits_mk hn (by rw [add_length]; omega) ((rightL_iff _).2 fun j => ?_), rfl⟩, fun j => by simp, rfl⟩
    have := (rightL_iff _).1 hm j; have := h0 j; have := hb j
    rw [add_at]
    simp only [List.length_nil] at *
    omega
  | cons t ts ih =>
    intro m m' d h hl h0 hb
    obtain ⟨x, h1, h2⟩ := run_cons.1 h
    simp only [List.length_cons] at hb ⊢
    obtain ⟨g1, g2, g3⟩ := fire_more h1 hl h0 (fun j => by have := hb j; omega)
    obtain ⟨k1, k2, k3⟩ := ih h2 (by omega) h0 (fun j => by have := hb j; have := g2 j; omega)
    exact ⟨run_cons.2 ⟨_, g1, k1⟩, fun j => by have := k2 j; have := g2 j; omega, by omega⟩

/-! Two that change places. -/

theorem fire_two {n : NetL} {m : List Int} {t u : Nat} (hn : netOk n = true) (ht : t < n.trans.length) (hu : u < n.trans.length) (hl : (m.length : Int) = n.places) (hm : rightL m = true) (hb : ∀ j, nth m j ≤ 900000)
    (hc : ∀ j, nth (tranAt n.trans t).pre j + nth (tranAt n.trans u).pre j ≤ nth m j) :
    ∃ z, runL n m [(t : Int), (u : Int)] = (z, 0) ∧ z.length = m.length ∧ ∀ j, nth z j = nth m j - nth (tranAt n.trans t).pre j + nth (tranAt n.trans t).post j - nth (tranAt n.trans u).pre j + nth (tranAt n.trans u).post j := by
  have pt := post_le hn ht
  have pu := post_le hn hu
  obtain ⟨l1, l2⟩ := tran_length hn ht
  obtain ⟨l3, l4⟩ := tran_length hn hu
  have hm' := (rightL_iff _).1 hm
  have f1 := fire_mk (m := m) ht (fits_mk hn hl hm) ((coversL_iff _ _).2 fun j => by have := hc j; have := pu j; omega) ((rightL_iff _).2 fun j => by
    have := hc j; have := pt j; have := pu j; have := hb j; have := hm' j; rw [add_at, sub_at]; omega)
  have ff := fire_fits f1
  have f2 := fire_mk hu ff ((coversL_iff _ _).2 fun j => by have := hc j; have := pt j; rw [add_at, sub_at]; omega) ((rightL_iff _).2 fun j => by
    have := hc j; have := pt j; have := pu j; have := hb j; have := hm' j; simp only [add_at, sub_at]; omega)
  refine ⟨_, run_cons.2 ⟨_, f1, run_cons.2 ⟨_, f2, run_nil.2 ⟨fire_fits f2, rfl⟩⟩⟩, by simp only [add_length, sub_length]; omega, fun j => by simp only [add_at, sub_at]⟩

theorem fire_swap {n : NetL} {m : List Int} {t u : Nat} (hn : netOk n = true) (ht : t < n.trans.length) (hu : u < n.trans.length) (hl : (m.length : Int) = n.places) (hm : rightL m = true) (hb : ∀ j, nth m j ≤ 900000)
    (hc : ∀ j, nth (tranAt n.trans t).pre j + nth (tranAt n.trans u).pre j ≤ nth m j) :
    ∃ z, runL n m [(t : Int), (u : Int)] = (z, 0) ∧ runL n m [(u : Int), (t : Int)] = (z, 0) := by
  obtain ⟨z, h1, h2, h3⟩ := fire_two hn ht hu hl hm hb hc
  obtain ⟨y, k1, k2, k3⟩ := fire_two hn hu ht hl hm hb (fun j => by have := hc j; omega)
  have e : y = z := eq_of_at (by omega) fun j => by rw [h3 j, k3 j]; omega
  exact ⟨z, h1, e ▸ k1⟩

/-! Back again. -/

theorem runL_cons (n : NetL) (m : List Int) (t : Int) (ts : List Int) : runL n m (t :: ts) = if fitsL n m then (if (fireL n m t).2 == 0 then runL n (fireL n m t).1 ts else ([], (fireL n m t).2)) else ([], 2) := rfl

theorem run_append {n : NetL} (a : List Int) : ∀ {m : List Int} (b : List Int), runL n m (a ++ b) = if (runL n m a).2 == 0 then runL n (runL n m a).1 b else ([], (runL n m a).2) := by
  induction a with
  | nil =>
    intro m b
    cases hf : fitsL n m
    · have e : runL n m [] = ([], 2) := by simp [runL, hf]
      rw [e, List.nil_append]
      cases b <;> simp [runL, hf]
    · have e : runL n m [] = (m, 0) := by simp [runL, hf]
      rw [e]; rfl
  | cons t ts ih =>
    intro m b
    rw [List.cons_append, runL_cons, runL_cons]
    cases hf : fitsL n m
    · simp
    · simp only [if_true]
      cases hq : ((fireL n m t).2 == 0)
      · simp [hq]
      · simp only [if_true]
        exact ih b

theorem turn_turn (t : TranL) : turnT (turnT t) = t := rfl
theorem turn_ok (n : NetL) (h : netOk n = true) : netOk (turnL n) = true := by
  simp only [netOk, headOk, Bool.and_eq_true, decide_eq_true_eq] at h ⊢
  refine ⟨⟨h.1.1, by simp [turnL]; exact h.1.2⟩, ?_⟩
  rw [List.all_eq_true] at h ⊢
  intro t ht
  obtain ⟨s, hs, rfl⟩ := List.mem_map.1 ht
  have := h.2 s hs
  simp only [tranOk, tranHead, turnT, turnL, Bool.and_eq_true, List.all_append] at this ⊢
  exact ⟨⟨⟨this.1.1.1, this.1.2⟩, this.1.1.2⟩, this.2.2, this.2.1⟩

theorem fire_back {n : NetL} {m m' : List Int} {t : Int} (h : fireL n m t = (m', 0)) : fireL (turnL n) m' t = (m, 0) := by
  have hf' := fire_fits h
  obtain ⟨k, rfl, hk, hf, hc, hr, rfl⟩ := fire_ok h
  obtain ⟨hn, hlen, hm⟩ := fits_net hf
  obtain ⟨l1, l2⟩ := tran_length hn hk
  have hc' := (coversL_iff _ _).1 hc
  have ea : tranAt (turnL n).trans k = turnT (tranAt n.trans k) := turn_at _ _ hk
  have e : addL (subL (addL (subL m (tranAt n.trans k).pre) (tranAt n.trans k).post) (tranAt n.trans k).post) (tranAt n.trans k).pre = m := by
    refine eq_of_at (by simp only [add_length, sub_length]; omega) fun j => ?_
    simp only [add_at, sub_at]; omega
  have hft : fitsL (turnL n) (addL (subL m (tranAt n.trans k).pre) (tranAt n.trans k).post) = true := by
    obtain ⟨_, q1, q2⟩ := fits_net hf'
    exact fits_mk (turn_ok n hn) q1 q2
  have := fire_mk (n := turnL n) (k := k) (by simpa [turnL] using hk) hft (by
    rw [ea, coversL_iff]; intro j; have := hc' j; simp only [turnT, add_at, sub_at]; omega) (by
    rw [ea]; show rightL (addL (subL _ (tranAt n.trans k).post) (tranAt n.trans k).pre) = true; rw [e]; exact hm)
  rw [this, ea]
  show (addL (subL _ (tranAt n.trans k).post) (tranAt n.trans k).pre, (0 : Int)) = _
  rw [e]

theorem run_back {n : NetL} (seq : List Int) : ∀ {m x : List Int}, runL n m seq = (x, 0) → runL (turnL n) x seq.reverse = (m, 0) := by
  induction seq with
  | nil =>
    intro m x h
    obtain ⟨hf, rfl⟩ := run_nil.1 h
    obtain ⟨hn, q1, q2⟩ := fits_net hf
    exact run_nil.2 ⟨fits_mk (turn_ok n hn) q1 q2, rfl⟩
  | cons t ts ih =>
    intro m x h
    obtain ⟨y, h1, h2⟩ := run_cons.1 h
    have h3 := ih h2
    rw [List.reverse_cons, run_append, h3]
    have h4 := fire_back h1
    exact run_cons.2 ⟨_, h4, run_nil.2 ⟨fire_fits h4, rfl⟩⟩

/-! Who can, and who fires. -/

theorem can_mem (n : NetL) (m : List Int) (k : Nat) (t : Int) : t ∈ canTo n m k ↔ ∃ j : Nat, t = j ∧ j < k ∧ coversL m (tranAt n.trans j).pre = true := by
  simp only [canTo, List.mem_map, List.mem_filter, List.mem_range]
  exact ⟨fun ⟨j, ⟨h1, h2⟩, h3⟩ => ⟨j, h3.symm, h1, h2⟩, fun ⟨j, h3, h1, h2⟩ => ⟨j, ⟨h1, h2⟩, h3.symm⟩⟩

theorem can_fire {n : NetL} {m : List Int} (hf : fitsL n m = true) (t : Int) : (canTo n m n.trans.length).contains t = ((fireL n m t).2 != 3) := by
  rw [Bool.eq_iff_iff, List.contains_iff_mem, can_mem, bne_iff_ne]
  constructor
  · rintro ⟨j, rfl, hj, hc⟩
    unfold fireL
    rw [hf, decide_eq_true (show (0 : Int) ≤ j by omega), decide_eq_true (show (j : Int) < n.trans.length by omega), Int.toNat_natCast, hc]
    simp only [Bool.and_self, if_true]
    split <;> simp
  · intro h
    unfold fireL at h
    rw [hf] at h
    cases hc : (decide (0 ≤ t) && decide (t < n.trans.length) && coversL m (tranAt n.trans t.toNat).pre)
    · simp [hc] at h
    · simp only [Bool.and_eq_true, decide_eq_true_eq] at hc
      obtain ⟨⟨h0, h1⟩, h2⟩ := hc
      obtain ⟨k, rfl⟩ := Int.eq_ofNat_of_zero_le h0
      rw [Int.toNat_natCast] at h2
      exact ⟨k, rfl, by omega, h2⟩

theorem not_fits {n : NetL} {m : List Int} (hf : fitsL n m = false) (t : Int) : fireL n m t = ([], 2) := by simp [fireL, hf]

end Go.Proofs.YteoofibhpifmlaaDoor

/- Plain words for all marks that a net comes to. -/
namespace Go.Proofs.YteoofibhpifmlaaDoor
set_option linter.unusedVariables false
set_option maxRecDepth 4000

/-- An arc: from, by, to. -/
structure ArcL where
  frm : Nat
  tran : Nat
  dst : Nat

/-- All marks, and how. -/
structure SpaceL where
  marks : List (List Int)
  arcs : List ArcL

/-- Where a mark is found, if it is. -/
def findM (ms : List (List Int)) (x : List Int) : Option Nat := ms.findIdx? (· == x)
def markAt (ms : List (List Int)) (k : Nat) : List Int := ms.getD k []

theorem findM_some {ms : List (List Int)} {x : List Int} {k : Nat} (h : findM ms x = some k) : k < ms.length ∧ markAt ms k = x := by
  obtain ⟨hk, h1, _⟩ := List.findIdx?_eq_some_iff_getElem.1 h
  refine ⟨hk, ?_⟩
  rw [markAt, List.getD_eq_getElem?_getD, List.getElem?_eq_getElem hk]
  simpa using h1
theorem findM_none {ms : List (List Int)} {x : List Int} (h : findM ms x = none) : x ∉ ms := by
  intro hx
  have := List.findIdx?_eq_none_iff.1 h x hx
  simp at this
theorem markAt_mem {ms : List (List Int)} {k : Nat} (h : k < ms.length) : markAt ms k ∈ ms := by
  rw [markAt, List.getD_eq_getElem?_getD, List.getElem?_eq_getElem h]; exact List.getElem_mem h
theorem markAt_append {ms ns : List (List Int)} {k : Nat} (h : k < ms.length) : markAt (ms ++ ns) k = markAt ms k := by
  rw [markAt, markAt, List.getD_eq_getElem?_getD, List.getD_eq_getElem?_getD, List.getElem?_append_left h]
theorem markAt_last (ms : List (List Int)) (x : List Int) : markAt (ms ++ [x]) ms.length = x := by
  rw [markAt, List.getD_eq_getElem?_getD, List.getElem?_append_right (Nat.le_refl _)]; simp

/-- A transition is tried at a mark. -/
def tryT (n : NetL) (most : Nat) (k : Nat) (s : SpaceL) (t : Nat) : Option SpaceL :=
  if (fireL n (markAt s.marks k) t).2 == 3 then some s
  else if (fireL n (markAt s.marks k) t).2 == 0 then
    match findM s.marks (fireL n (markAt s.marks k) t).1 with
    | some g => some ⟨s.marks, s.arcs ++ [⟨k, t, g⟩]⟩
    | none => if s.marks.length = most then none else some ⟨s.marks ++ [(fireL n (markAt s.marks k) t).1], s.arcs ++ [⟨k, t, s.marks.length⟩]⟩
  else none

/-- The first t transitions are tried at mark k. -/
def rowTo (n : NetL) (most k : Nat) (s : SpaceL) : Nat → Option SpaceL
  | 0 => some s
  | t + 1 => (rowTo n most k s t).bind fun s' => tryT n most k s' t

/-- The first k marks are done. -/
def graphTo (n : NetL) (m : List Int) (most : Nat) : Nat → Option SpaceL
  | 0 => some ⟨[m], []⟩
  | k + 1 => (graphTo n m most k).bind fun s => if k < s.marks.length then rowTo n most k s n.trans.length else some s

def graphOk (n : NetL) (m : List Int) (most : Int) : Bool := decide (1 ≤ most) && decide (most ≤ 300) && fitsL n m
def graphL (n : NetL) (m : List Int) (most : Int) : SpaceL × Int :=
  if graphOk n m most then
    match graphTo n m most.toNat most.toNat with
    | some s => (s, 0)
    | none => (⟨[], []⟩, 4)
  else (⟨[], []⟩, 2)

/-- The first arc to a mark. -/
def firstTo (l : List ArcL) (g : Nat) : Option ArcL := l.find? fun a => a.dst == g

/-- What holds while marks are found: k marks are done, and t transitions of mark k. -/
structure Found (n : NetL) (m : List Int) (most k t : Nat) (s : SpaceL) : Prop where
  most_le : s.marks.length ≤ most
  pos : 0 < s.marks.length
  first : markAt s.marks 0 = m
  nodup : s.marks.Nodup
  fits : ∀ x ∈ s.marks, fitsL n x = true
  sound : ∀ a ∈ s.arcs, a.frm < s.marks.length ∧ a.dst < s.marks.length ∧ a.tran < n.trans.length ∧ a.frm ≤ k ∧ fireL n (markAt s.marks a.frm) a.tran = (markAt s.marks a.dst, 0)
  whole : ∀ f j, f < s.marks.length → j < n.trans.length → (f < k ∨ f = k ∧ j < t) → (fireL n (markAt s.marks f) j).2 = 3 ∨ ∃ g, (⟨f, j, g⟩ : ArcL) ∈ s.arcs
  par : ∀ g, 0 < g → g < s.marks.length → ∃ a, firstTo s.arcs g = some a ∧ a.frm < g
  mono : ∀ g h a b, 0 < g → g ≤ h → firstTo s.arcs g = some a → firstTo s.arcs h = some b → h < s.marks.length → a.frm ≤ b.frm
  early : ∀ a b, a ∈ s.arcs → firstTo s.arcs a.dst = some b → b.frm ≤ a.frm

theorem firstTo_append {l : List ArcL} {g : Nat} {a b : ArcL} (h : firstTo l g = some a) : firstTo (l ++ [b]) g = some a := by
  unfold firstTo at *; rw [List.find?_append, h]; rfl
theorem firstTo_new {l : List ArcL} {g : Nat} {b : ArcL} (h : firstTo l g = none) (hb : b.dst = g) : firstTo (l ++ [b]) g = some b := by
  unfold firstTo at *; rw [List.find?_append, h]; simp [hb]
theorem firstTo_other {l : List ArcL} {g : Nat} {b : ArcL} (hb : b.dst ≠ g) : firstTo (l ++ [b]) g = firstTo l g := by
  unfold firstTo; rw [List.find?_append]
  cases l.find? (fun a => a.dst == g) with
  | some a => rfl
  | none => simp [hb]
theorem firstTo_mem {l : List ArcL} {g : Nat} {a : ArcL} (h : firstTo l g = some a) : a ∈ l ∧ a.dst = g := by
  unfold firstTo at h
  exact ⟨List.mem_of_find?_eq_some h, by simpa using List.find?_some h⟩
theorem firstTo_none {l : List ArcL} {g : Nat} (h : ∀ a ∈ l, a.dst ≠ g) : firstTo l g = none := by
  unfold firstTo; rw [List.find?_eq_none]; intro a ha; simpa using h a ha

theorem Found.start {n : NetL} {m : List Int} {most : Nat} (hm : 1 ≤ most) (hf : fitsL n m = true) : Found n m most 0 0 ⟨[m], []⟩ where
  most_le := hm
  pos := Nat.one_pos
  first := rfl
  nodup := by simp
  fits := by simp [hf]
  sound := by simp
  whole := by intro f j h1 h2 h3; omega
  par := by intro g h1 h2; simp at h2; omega
  mono := by intro g h a b h1 h2 h3; simp [firstTo] at h3
  early := by simp

/-- One more arc, to a mark that was there. -/
theorem Found.arc {n : NetL} {m : List Int} {most k t g : Nat} {s : SpaceL} (h : Found n m most k t s) (hk : k < s.marks.length) (ht : t < n.trans.length) (hg : g < s.marks.length)
    (hf : fireL n (markAt s.marks k) t = (markAt s.marks g, 0)) : Found n m most k (t + 1) ⟨s.marks, s.arcs ++ [⟨k, t, g⟩]⟩ where
  most_le := h.most_le
  pos := h.pos
  first := h.first
  nodup := h.nodup
  fits := h.fits
  sound := by
    intro a ha
    rcases List.mem_append.1 ha with ha | ha
    · exact h.sound a ha
    · rw [List.mem_singleton] at ha; subst ha; exact ⟨hk, hg, ht, Nat.le_refl _, hf⟩
  whole := by
    intro f j h1 h2 h3
    by_cases e : f = k ∧ j = t
    · obtain ⟨rfl, rfl⟩ := e; exact .inr ⟨g, List.mem_append_right _ (List.mem_singleton.2 rfl)⟩
    · rcases h.whole f j h1 h2 (by omega) with h4 | ⟨g', h4⟩
      · exact .inl h4
      · exact .inr ⟨g', List.mem_append_left _ h4⟩
  par := by
    intro g' h1 h2
    obtain ⟨a, h3, h4⟩ := h.par g' h1 h2
    exact ⟨a, firstTo_append h3, h4⟩
  mono := by
    intro g1 g2 a b h1 h2 h3 h4 h5
    obtain ⟨a', h6, _⟩ := h.par g1 h1 (Nat.lt_of_le_of_lt h2 h5)
    obtain ⟨b', h7, _⟩ := h.par g2 (by omega) h5
    rw [firstTo_append h6] at h3
    rw [firstTo_append h7] at h4
    injection h3 with h3
    injection h4 with h4
    subst h3 h4
    exact h.mono g1 g2 _ _ h1 h2 h6 h7 h5
  early := by
    intro a b ha hb
    rcases List.mem_append.1 ha with ha | ha
    · cases he : firstTo s.arcs a.dst with
      | some c => rw [firstTo_append he] at hb; injection hb with hb; subst hb; exact h.early a _ ha he
      | none =>
        unfold firstTo at he
        rw [List.find?_eq_none] at he
        exact absurd (he a ha) (by simp)
    · rw [List.mem_singleton] at ha
      subst ha
      rcases List.mem_append.1 (firstTo_mem hb).1 with hb' | hb'
      · exact (h.sound b hb').2.2.2.1
      · rw [List.mem_singleton] at hb'; subst hb'; exact Nat.le_refl _

/-- One more arc, to a new mark. -/
theorem Found.new {n : NetL} {m x : List Int} {most k t : Nat} {s : SpaceL} (h : Found n m most k t s) (hk : k < s.marks.length) (ht : t < n.trans.length) (hx : x ∉ s.marks) (hlt : s.marks.length < most)
    (hf : fireL n (markAt s.marks k) t = (x, 0)) : Found n m most k (t + 1) ⟨s.marks ++ [x], s.arcs ++ [⟨k, t, s.marks.length⟩]⟩ where
  most_le := by simp; omega
  pos := by simp
  first := by show markAt (s.marks ++ [x]) 0 = m; rw [markAt_append h.pos]; exact h.first
  nodup := by
    show (s.marks ++ [x]).Nodup
    rw [List.nodup_append]
    exact ⟨h.nodup, by simp, fun a ha b hb e => by rw [List.mem_singleton] at hb; subst hb; subst e; exact hx ha⟩
  fits := by
    intro y hy
    rcases List.mem_append.1 hy with hy | hy
    · exact h.fits y hy
    · rw [List.mem_singleton] at hy; subst hy; exact fire_fits hf
  sound := by
    intro a ha
    have hl : (s.marks ++ [x]).length = s.marks.length + 1 := by simp
    rcases List.mem_append.1 ha with ha | ha
    · obtain ⟨h1, h2, h3, h4, h5⟩ := h.sound a ha
      show a.frm < (s.marks ++ [x]).length ∧ a.dst < (s.marks ++ [x]).length ∧ a.tran < n.trans.length ∧ a.frm ≤ k ∧ fireL n (markAt (s.marks ++ [x]) a.frm) a.tran = (markAt (s.marks ++ [x]) a.dst, 0)
      rw [markAt_append h1, markAt_append h2, hl]
      exact ⟨by omega, by omega, h3, h4, h5⟩
    · rw [List.mem_singleton] at ha
      subst ha
      show k < (s.marks ++ [x]).length ∧ s.marks.length < (s.marks ++ [x]).length ∧ t < n.trans.length ∧ k ≤ k ∧ fireL n (markAt (s.marks ++ [x]) k) t = (markAt (s.marks ++ [x]) s.marks.length, 0)
      rw [markAt_append hk, markAt_last, hl]
      exact ⟨by omega, by omega, ht, Nat.le_refl _, hf⟩
  whole := by
    intro f j h1 h2 h3
    show (fireL n (markAt (s.marks ++ [x]) f) j).2 = 3 ∨ ∃ g, _ ∈ s.arcs ++ _
    have hfl : f < s.marks.length := by omega
    rw [markAt_append hfl]
    by_cases e : f = k ∧ j = t
    · obtain ⟨rfl, rfl⟩ := e; exact .inr ⟨s.marks.length, List.mem_append_right _ (List.mem_singleton.2 rfl)⟩
    · rcases h.whole f j hfl h2 (by omega) with h4 | ⟨g', h4⟩
      · exact .inl h4
      · exact .inr ⟨g', List.mem_append_left _ h4⟩
  par := by
    intro g h1 h2
    have hl : (s.marks ++ [x]).length = s.marks.length + 1 := by simp
    by_cases hg : g < s.marks.length
    · obtain ⟨a, h3, h4⟩ := h.par g h1 hg
      exact ⟨a, firstTo_append h3, h4⟩
    · have e : g = s.marks.length := by simp only [hl] at h2; omega
      exact ⟨⟨k, t, s.marks.length⟩, firstTo_new (firstTo_none fun a ha => by have := (h.sound a ha).2.1; omega) e.symm, by show k < g; omega⟩
  mono := by
    intro g1 g2 a b h1 h2 h3 h4 h5
    have hl : (s.marks ++ [x]).length = s.marks.length + 1 := by simp
    have hno : firstTo s.arcs s.marks.length = none := firstTo_none fun a ha => by have := (h.sound a ha).2.1; omega
    by_cases hg2 : g2 < s.marks.length
    · obtain ⟨a', h6, _⟩ := h.par g1 h1 (Nat.lt_of_le_of_lt h2 hg2)
      obtain ⟨b', h7, _⟩ := h.par g2 (by omega) hg2
      rw [firstTo_append h6] at h3
      rw [firstTo_append h7] at h4
      injection h3 with h3
      injection h4 with h4
      subst h3 h4
      exact h.mono g1 g2 _ _ h1 h2 h6 h7 hg2
    · have e : g2 = s.marks.length := by simp only [hl] at h5; omega
      subst e
      rw [firstTo_new hno rfl] at h4
      injection h4 with h4
      subst h4
      rcases List.mem_append.1 (firstTo_mem h3).1 with hb' | hb'
      · exact (h.sound a hb').2.2.2.1
      · rw [List.mem_singleton] at hb'; subst hb'; exact Nat.le_refl _
  early := by
    intro a b ha hb
    rcases List.mem_append.1 ha with ha | ha
    · cases he : firstTo s.arcs a.dst with
      | some c => rw [firstTo_append he] at hb; injection hb with hb; subst hb; exact h.early a _ ha he
      | none =>
        unfold firstTo at he
        rw [List.find?_eq_none] at he
        exact absurd (he a ha) (by simp)
    · rw [List.mem_singleton] at ha
      subst ha
      rcases List.mem_append.1 (firstTo_mem hb).1 with hb' | hb'
      · exact (h.sound b hb').2.2.2.1
      · rw [List.mem_singleton] at hb'; subst hb'; exact Nat.le_refl _

end Go.Proofs.YteoofibhpifmlaaDoor

/- Plain facts on all marks that a net comes to. -/
namespace Go.Proofs.YteoofibhpifmlaaDoor
set_option linter.unusedVariables false
set_option maxRecDepth 4000

/-- What is found stays: more marks may come behind. -/
def Longer (s s' : SpaceL) : Prop := ∃ ms l, s'.marks = s.marks ++ ms ∧ s'.arcs = s.arcs ++ l
theorem Longer.refl (s : SpaceL) : Longer s s := ⟨[], [], by simp, by simp⟩
theorem Longer.trans {a b c : SpaceL} (h : Longer a b) (k : Longer b c) : Longer a c := by
  obtain ⟨m1, l1, e1, e2⟩ := h
  obtain ⟨m2, l2, e3, e4⟩ := k
  exact ⟨m1 ++ m2, l1 ++ l2, by rw [e3, e1, List.append_assoc], by rw [e4, e2, List.append_assoc]⟩
theorem Longer.le {a b : SpaceL} (h : Longer a b) : a.marks.length ≤ b.marks.length := by
  obtain ⟨m1, l1, e1, e2⟩ := h; rw [e1]; simp

theorem Found.skip {n : NetL} {m : List Int} {most k t : Nat} {s : SpaceL} (h : Found n m most k t s) (hf : (fireL n (markAt s.marks k) t).2 = 3) : Found n m most k (t + 1) s := by
  have hw : ∀ f j, f < s.marks.length → j < n.trans.length → (f < k ∨ f = k ∧ j < t + 1) → (fireL n (markAt s.marks f) j).2 = 3 ∨ ∃ g, (⟨f, j, g⟩ : ArcL) ∈ s.arcs := by
    intro f j h1 h2 h3
    by_cases e : f = k ∧ j = t
    · obtain ⟨rfl, rfl⟩ := e; exact .inl hf
    · exact h.whole f j h1 h2 (by omega)
  exact { h with whole := hw }

theorem tryT_found {n : NetL} {m : List Int} {most k t : Nat} {s s' : SpaceL} (h : Found n m most k t s) (hk : k < s.marks.length) (ht : t < n.trans.length) (e : tryT n most k s t = some s') :
    Found n m most k (t + 1) s' ∧ Longer s s' := by
  unfold tryT at e
  by_cases h3 : (fireL n (markAt s.marks k) t).2 = 3
  · rw [if_pos (by simp [h3])] at e
    injection e with e
    subst e
    exact ⟨h.skip h3, Longer.refl _⟩
  · rw [if_neg (by simp [h3])] at e
    by_cases h0 : (fireL n (markAt s.marks k) t).2 = 0
    · rw [if_pos (by simp [h0])] at e
      cases hf : findM s.marks (fireL n (markAt s.marks k) t).1 with
      | some g =>
        rw [hf] at e
        injection e with e
        subst e
        obtain ⟨hg, he⟩ := findM_some hf
        exact ⟨h.arc hk ht hg (by rw [he, ← h0]), [], [_], by simp, rfl⟩
      | none =>
        rw [hf] at e
        simp only at e
        by_cases hm : s.marks.length = most
        · rw [if_pos hm] at e; cases e
        · rw [if_neg hm] at e
          injection e with e
          subst e
          exact ⟨h.new hk ht (findM_none hf) (by have := h.most_le; omega) (by rw [← h0]), [_], [_], rfl, rfl⟩
    · rw [if_neg (by simp [h0])] at e; cases e

theorem rowTo_found {n : NetL} {m : List Int} {most k : Nat} {s : SpaceL} (h : Found n m most k 0 s) (hk : k < s.marks.length) : ∀ (t : Nat) {s' : SpaceL}, t ≤ n.trans.length → rowTo n most k s t = some s' →
    Found n m most k t s' ∧ Longer s s' := by
  intro t
  induction t with
  | zero => intro s' _ e; injection e with e; subst e; exact ⟨h, Longer.refl _⟩
  | succ t ih =>
    intro s' ht e
    simp only [rowTo, Option.bind_eq_some_iff] at e
    obtain ⟨s1, e1, e2⟩ := e
    obtain ⟨h1, l1⟩ := ih (by omega) e1
    obtain ⟨h2, l2⟩ := tryT_found h1 (Nat.lt_of_lt_of_le hk l1.le) (by omega) e2
    exact ⟨h2, l1.trans l2⟩

theorem Found.next {n : NetL} {m : List Int} {most k : Nat} {s : SpaceL} (h : Found n m most k n.trans.length s) : Found n m most (k + 1) 0 s :=
  { h with
    sound := fun a ha => by obtain ⟨h1, h2, h3, h4, h5⟩ := h.sound a ha; exact ⟨h1, h2, h3, by omega, h5⟩
    whole := fun f j h1 h2 h3 => h.whole f j h1 h2 (by omega) }
theorem Found.past {n : NetL} {m : List Int} {most k : Nat} {s : SpaceL} (h : Found n m most k 0 s) (hk : s.marks.length ≤ k) : Found n m most (k + 1) 0 s :=
  { h with
    sound := fun a ha => by obtain ⟨h1, h2, h3, h4, h5⟩ := h.sound a ha; exact ⟨h1, h2, h3, by omega, h5⟩
    whole := fun f j h1 h2 h3 => h.whole f j h1 h2 (by omega) }

theorem graphTo_found {n : NetL} {m : List Int} {most : Nat} (hm : 1 ≤ most) (hf : fitsL n m = true) : ∀ (k : Nat) {s : SpaceL}, graphTo n m most k = some s → Found n m most k 0 s := by
  intro k
  induction k with
  | zero => intro s e; injection e with e; subst e; exact Found.start hm hf
  | succ k ih =>
    intro s e
    simp only [graphTo, Option.bind_eq_some_iff] at e
    obtain ⟨s1, e1, e2⟩ := e
    have h1 := ih e1
    by_cases hk : k < s1.marks.length
    · rw [if_pos hk] at e2
      exact ((rowTo_found h1 hk _ (Nat.le_refl _) e2).1).next
    · rw [if_neg hk] at e2
      injection e2 with e2
      subst e2
      exact h1.past (by omega)

/-- All marks are found, and all firings. -/
def Whole (n : NetL) (m : List Int) (s : SpaceL) : Prop := ∃ most k, Found n m most k 0 s ∧ s.marks.length ≤ k

theorem graphL_ok {n : NetL} {m : List Int} {most : Int} {s : SpaceL} (h : graphL n m most = (s, 0)) : 1 ≤ most ∧ most ≤ 300 ∧ fitsL n m = true ∧ graphTo n m most.toNat most.toNat = some s ∧ Found n m most.toNat most.toNat 0 s := by
  unfold graphL at h
  cases ho : graphOk n m most
  · rw [ho] at h; simp at h
  · rw [ho] at h
    simp only [if_true] at h
    simp only [graphOk, Bool.and_eq_true, decide_eq_true_eq] at ho
    obtain ⟨⟨h1, h2⟩, h3⟩ := ho
    cases hg : graphTo n m most.toNat most.toNat with
    | none => rw [hg] at h; simp at h
    | some s' =>
      rw [hg] at h
      simp only [Prod.mk.injEq, and_true] at h
      subst h
      exact ⟨h1, h2, h3, rfl, graphTo_found (by omega) h3 _ hg⟩
theorem graphL_whole {n : NetL} {m : List Int} {most : Int} {s : SpaceL} (h : graphL n m most = (s, 0)) : Whole n m s := by
  obtain ⟨_, _, _, _, hF⟩ := graphL_ok h
  exact ⟨_, _, hF, hF.most_le⟩
theorem graphL_err {n : NetL} {m : List Int} {most : Int} (h : (graphL n m most).2 ≠ 0) : (graphL n m most).1 = ⟨[], []⟩ := by
  unfold graphL at *
  split
  · split
    · simp_all
    · rfl
  · rfl

/-- A firing from a mark that is there comes to one that is there; or it cannot be done. -/
theorem Whole.fire {n : NetL} {m : List Int} {s : SpaceL} (h : Whole n m s) {f : Nat} (hf : f < s.marks.length) (t : Int) :
    (fireL n (markAt s.marks f) t).2 = 3 ∨ ∃ (j : Nat) (g : Nat), t = j ∧ (⟨f, j, g⟩ : ArcL) ∈ s.arcs ∧ g < s.marks.length ∧ fireL n (markAt s.marks f) t = (markAt s.marks g, 0) := by
  obtain ⟨most, k, hF, hk⟩ := h
  by_cases ht : 0 ≤ t ∧ t < n.trans.length
  · obtain ⟨j, rfl⟩ := Int.eq_ofNat_of_zero_le ht.1
    rcases hF.whole f j hf (by omega) (by omega) with h3 | ⟨g, hg⟩
    · exact .inl h3
    · obtain ⟨_, q2, _, _, q5⟩ := hF.sound _ hg
      exact .inr ⟨j, g, rfl, hg, q2, q5⟩
  · left
    have hfit := hF.fits _ (markAt_mem hf)
    unfold fireL
    rw [hfit]
    have : (decide (0 ≤ t) && decide (t < n.trans.length)) = false := by
      rw [Bool.and_eq_false_iff, decide_eq_false_iff_not, decide_eq_false_iff_not]; omega
    rw [this]; simp

/-- Whoever is there goes nowhere else. -/
theorem Whole.run {n : NetL} {m : List Int} {s : SpaceL} (h : Whole n m s) (seq : List Int) : ∀ {f : Nat}, f < s.marks.length →
    (runL n (markAt s.marks f) seq).2 = 3 ∨ ∃ g, g < s.marks.length ∧ runL n (markAt s.marks f) seq = (markAt s.marks g, 0) := by
  induction seq with
  | nil =>
    intro f hf
    obtain ⟨most, k, hF, hk⟩ := h
    exact .inr ⟨f, hf, by rw [runL, hF.fits _ (markAt_mem hf)]; rfl⟩
  | cons t ts ih =>
    intro f hf
    have hfit : fitsL n (markAt s.marks f) = true := by obtain ⟨most, k, hF, hk⟩ := h; exact hF.fits _ (markAt_mem hf)
    rw [runL, hfit]
    rcases h.fire hf t with h3 | ⟨j, g, rfl, _, hg, e⟩
    · left; rw [h3]; simp
    · rw [e]
      simp only [BEq.rfl, if_true]
      exact ih hg
theorem Whole.here {n : NetL} {m : List Int} {s : SpaceL} (h : Whole n m s) : 0 < s.marks.length ∧ markAt s.marks 0 = m := by
  obtain ⟨most, k, hF, hk⟩ := h; exact ⟨hF.pos, hF.first⟩
theorem Whole.nodup {n : NetL} {m : List Int} {s : SpaceL} (h : Whole n m s) : s.marks.Nodup := by
  obtain ⟨most, k, hF, hk⟩ := h; exact hF.nodup
theorem markAt_inj {ms : List (List Int)} (h : ms.Nodup) {i j : Nat} (hi : i < ms.length) (hj : j < ms.length) (e : markAt ms i = markAt ms j) : i = j := by
  rw [markAt, markAt, List.getD_eq_getElem?_getD, List.getD_eq_getElem?_getD, List.getElem?_eq_getElem hi, List.getElem?_eq_getElem hj] at e
  have e' : ms[i] = ms[j] := by simpa using e
  have hp := List.pairwise_iff_getElem.1 h
  rcases Nat.lt_trichotomy i j with q | q | q
  · exact absurd e' (hp i j hi hj q)
  · exact q
  · exact absurd e'.symm (hp j i hj hi q)

/-- How far a mark is from the first one, and how it is come to. -/
def pathTo (l : List ArcL) : Nat → Nat → List Int
  | 0, _ => []
  | fuel + 1, g => if g = 0 then [] else match firstTo l g with
    | some a => pathTo l fuel a.frm ++ [(a.tran : Int)]
    | none => []
def pathL (s : SpaceL) (g : Nat) : List Int := pathTo s.arcs g g

theorem pathTo_enough {n : NetL} {m : List Int} {most k t : Nat} {s : SpaceL} (h : Found n m most k t s) : ∀ (f g : Nat), g ≤ f → g < s.marks.length → pathTo s.arcs f g = pathL s g := by
  intro f
  induction f using Nat.strongRecOn with
  | ind f ih =>
    intro g hgf hg
    unfold pathL
    cases g with
    | zero => cases f <;> rfl
    | succ g =>
      cases f with
      | zero => omega
      | succ f =>
        obtain ⟨a, h1, h2⟩ := h.par (g + 1) (by omega) hg
        simp only [pathTo, h1, Nat.add_eq_zero_iff, Nat.succ_ne_self, and_false, if_false]
        rw [ih f (by omega) a.frm (by omega) (by omega)]
        congr 1
        by_cases e : g = f
        · subst e; exact (ih g (by omega) a.frm (by omega) (by omega)).symm
        · exact (ih g (by omega) a.frm (by omega) (by omega)).symm

theorem pathL_zero (s : SpaceL) : pathL s 0 = [] := rfl
theorem pathL_step {n : NetL} {m : List Int} {most k t : Nat} {s : SpaceL} (h : Found n m most k t s) {g : Nat} (h0 : 0 < g) (hg : g < s.marks.length) {a : ArcL} (ha : firstTo s.arcs g = some a) :
    pathL s g = pathL s a.frm ++ [(a.tran : Int)] := by
  obtain ⟨a', h1, h2⟩ := h.par g h0 hg
  rw [ha] at h1
  injection h1 with h1
  subst h1
  unfold pathL
  cases g with
  | zero => omega
  | succ g =>
    simp only [pathTo, ha, Nat.add_eq_zero_iff, and_false, if_false, Nat.one_ne_zero]
    rw [pathTo_enough h g a.frm (by omega) (by omega)]
    rfl

/-- A path leads where it says. -/
theorem Whole.path {n : NetL} {m : List Int} {s : SpaceL} (h : Whole n m s) : ∀ g, g < s.marks.length → runL n m (pathL s g) = (markAt s.marks g, 0) := by
  have h' := h
  obtain ⟨most, k, hF, hk⟩ := h
  intro g
  induction g using Nat.strongRecOn with
  | ind g ih =>
    intro hg
    by_cases h0 : g = 0
    · subst h0
      rw [pathL_zero, hF.first, runL]
      have := hF.fits _ (markAt_mem hF.pos)
      rw [hF.first] at this
      rw [this]; rfl
    · obtain ⟨a, h1, h2⟩ := hF.par g (by omega) hg
      rw [pathL_step hF (by omega) hg h1, run_append, ih a.frm h2 (by omega)]
      simp only [BEq.rfl, if_true]
      obtain ⟨q1, q2, q3, q4, q5⟩ := hF.sound a (firstTo_mem h1).1
      rw [run_cons]
      refine ⟨_, q5, ?_⟩
      rw [(firstTo_mem h1).2, run_nil]
      exact ⟨hF.fits _ (markAt_mem hg), rfl⟩

theorem depth_mono {n : NetL} {m : List Int} {most k t : Nat} {s : SpaceL} (h : Found n m most k t s) : ∀ j, ∀ i, i ≤ j → j < s.marks.length → (pathL s i).length ≤ (pathL s j).length := by
  intro j
  induction j using Nat.strongRecOn with
  | ind j ih =>
    intro i hij hj
    by_cases h0 : i = 0
    · subst h0; simp [pathL_zero]
    · obtain ⟨a, h1, h2⟩ := h.par i (by omega) (by omega)
      obtain ⟨b, h3, h4⟩ := h.par j (by omega) hj
      rw [pathL_step h (by omega) (by omega) h1, pathL_step h (by omega) hj h3]
      simp only [List.length_append, List.length_singleton]
      have := ih b.frm h4 a.frm (h.mono i j a b (by omega) hij h1 h3 hj) (by omega)
      omega
theorem depth_arc {n : NetL} {m : List Int} {most k t : Nat} {s : SpaceL} (h : Found n m most k t s) {a : ArcL} (ha : a ∈ s.arcs) : (pathL s a.dst).length ≤ (pathL s a.frm).length + 1 := by
  obtain ⟨q1, q2, _, _, _⟩ := h.sound a ha
  by_cases h0 : a.dst = 0
  · rw [h0]; simp [pathL_zero]
  · obtain ⟨b, h1, h2⟩ := h.par a.dst (by omega) q2
    rw [pathL_step h (by omega) q2 h1]
    simp only [List.length_append, List.length_singleton]
    have := depth_mono h a.frm b.frm (h.early a b ha h1) q1
    omega

/-- No run that is shorter leads there. -/
theorem Whole.short {n : NetL} {m : List Int} {s : SpaceL} (h : Whole n m s) (seq : List Int) : ∀ {f g : Nat}, f < s.marks.length → g < s.marks.length → runL n (markAt s.marks f) seq = (markAt s.marks g, 0) →
    (pathL s g).length ≤ (pathL s f).length + seq.length := by
  induction seq with
  | nil =>
    intro f g hf hg e
    obtain ⟨_, e2⟩ := run_nil.1 e
    rw [markAt_inj h.nodup hg hf e2]
    simp
  | cons t ts ih =>
    intro f g hf hg e
    obtain ⟨x, e1, e2⟩ := run_cons.1 e
    rcases h.fire hf t with h3 | ⟨j, q, rfl, ha, hq, e3⟩
    · rw [e1] at h3; cases h3
    · rw [e1] at e3
      injection e3 with e3 _
      subst e3
      have h1 := ih hq hg e2
      obtain ⟨most, k, hF, hk⟩ := h
      have h2 := depth_arc hF ha
      simp only [List.length_cons] at *
      omega

end Go.Proofs.YteoofibhpifmlaaDoor

/- Plain facts on all marks that a net comes to: more room. -/
namespace Go.Proofs.YteoofibhpifmlaaDoor
set_option linter.unusedVariables false
set_option maxRecDepth 4000

theorem tryT_len {n : NetL} {most k t : Nat} {s s' : SpaceL} (e : tryT n most k s t = some s') : s.marks.length ≤ s'.marks.length := by
  unfold tryT at e
  split at e
  · injection e with e; subst e; exact Nat.le_refl _
  · split at e
    · split at e
      · injection e with e; subst e; exact Nat.le_refl _
      · split at e
        · cases e
        · injection e with e; subst e; simp
    · cases e

theorem try_cut {n : NetL} {most more k t : Nat} {s s' : SpaceL} (hl : s.marks.length ≤ more) (e : tryT n most k s t = some s') : tryT n more k s t = if s'.marks.length ≤ more then some s' else none := by
  unfold tryT at e ⊢
  split at e
  · rename_i h
    rw [if_pos h]
    injection e with e; subst e; rw [if_pos hl]
  · rename_i h
    rw [if_neg h]
    split at e
    · rename_i h2
      rw [if_pos h2]
      split at e
      · rename_i g hg
        injection e with e; subst e; rw [if_pos hl]
      · rename_i hg
        split at e
        · cases e
        · injection e with e
          subst e
          simp only [List.length_append, List.length_singleton]
          by_cases h3 : s.marks.length = more
          · rw [if_pos h3, if_neg (by omega)]
          · rw [if_neg h3, if_pos (by omega)]
    · cases e

theorem rowTo_len {n : NetL} {most k : Nat} {s : SpaceL} : ∀ (t : Nat) {s' : SpaceL}, rowTo n most k s t = some s' → s.marks.length ≤ s'.marks.length := by
  intro t
  induction t with
  | zero => intro s' e; injection e with e; subst e; exact Nat.le_refl _
  | succ t ih =>
    intro s' e
    simp only [rowTo, Option.bind_eq_some_iff] at e
    obtain ⟨s1, e1, e2⟩ := e
    exact Nat.le_trans (ih e1) (tryT_len e2)

theorem row_cut {n : NetL} {most more k : Nat} {s : SpaceL} (hl : s.marks.length ≤ more) : ∀ (t : Nat) {s' : SpaceL}, rowTo n most k s t = some s' → rowTo n more k s t = if s'.marks.length ≤ more then some s' else none := by
  intro t
  induction t with
  | zero => intro s' e; injection e with e; subst e; rw [if_pos hl]; rfl
  | succ t ih =>
    intro s' e
    simp only [rowTo, Option.bind_eq_some_iff] at e
    obtain ⟨s1, e1, e2⟩ := e
    rw [rowTo, ih e1]
    by_cases h1 : s1.marks.length ≤ more
    · rw [if_pos h1]; exact try_cut h1 e2
    · rw [if_neg h1, if_neg (by have := tryT_len e2; omega)]; rfl

theorem graph_cut {n : NetL} {m : List Int} {most more : Nat} (h1 : 1 ≤ more) : ∀ (k : Nat) {s : SpaceL}, graphTo n m most k = some s → graphTo n m more k = if s.marks.length ≤ more then some s else none := by
  intro k
  induction k with
  | zero => intro s e; injection e with e; subst e; rw [if_pos (by simpa using h1)]; rfl
  | succ k ih =>
    intro s e
    simp only [graphTo, Option.bind_eq_some_iff] at e
    obtain ⟨s1, e1, e2⟩ := e
    rw [graphTo, ih e1]
    by_cases hk : k < s1.marks.length
    · rw [if_pos hk] at e2
      by_cases h2 : s1.marks.length ≤ more
      · rw [if_pos h2]
        simp only [Option.bind_some, if_pos hk]
        exact row_cut h2 _ e2
      · rw [if_neg h2, if_neg (by have := rowTo_len _ e2; omega)]; rfl
    · rw [if_neg hk] at e2
      injection e2 with e2
      subst e2
      by_cases h2 : s1.marks.length ≤ more
      · rw [if_pos h2]
        simp only [Option.bind_some, if_neg hk]
      · rw [if_neg h2]; rfl

theorem graph_stable {n : NetL} {m : List Int} {b k : Nat} {s : SpaceL} (e : graphTo n m b k = some s) (hk : s.marks.length ≤ k) : ∀ j, graphTo n m b (k + j) = some s := by
  intro j
  induction j with
  | zero => exact e
  | succ j ih => rw [← Nat.add_assoc, graphTo, ih]; simp only [Option.bind_some]; rw [if_neg (by omega)]
theorem graph_before {n : NetL} {m : List Int} {b : Nat} : ∀ (j k : Nat) {s : SpaceL}, graphTo n m b (k + j) = some s → ∃ s', graphTo n m b k = some s' := by
  intro j
  induction j with
  | zero => intro k s e; exact ⟨s, e⟩
  | succ j ih =>
    intro k s e
    rw [← Nat.add_assoc, graphTo, Option.bind_eq_some_iff] at e
    obtain ⟨s1, e1, _⟩ := e
    exact ih k e1

/-- More room changes nothing, where there was enough; and there is enough just if there is room for all. -/
theorem graph_room {n : NetL} {m : List Int} {most more : Int} {s : SpaceL} (h : graphL n m most = (s, 0)) (h1 : 1 ≤ more) (h2 : more ≤ 300) :
    graphL n m more = if (s.marks.length : Int) ≤ more then (s, 0) else (⟨[], []⟩, 4) := by
  obtain ⟨m1, m2, hf, hg, hF⟩ := graphL_ok h
  have hcut := graph_cut (n := n) (m := m) (more := more.toNat) (by omega) _ hg
  have hle := hF.most_le
  unfold graphL
  have hok : graphOk n m more = true := by simp only [graphOk, Bool.and_eq_true, decide_eq_true_eq]; exact ⟨⟨h1, h2⟩, hf⟩
  rw [hok]
  simp only [if_true]
  have key : graphTo n m more.toNat more.toNat = if s.marks.length ≤ more.toNat then some s else none := by
    rcases Nat.lt_or_ge more.toNat most.toNat with q | q
    · cases hx : graphTo n m more.toNat more.toNat with
      | none =>
        by_cases hl : s.marks.length ≤ more.toNat
        · rw [if_pos hl] at hcut
          have e : most.toNat = more.toNat + (most.toNat - more.toNat) := by omega
          rw [e] at hcut
          obtain ⟨s', hs'⟩ := graph_before _ _ hcut
          rw [hx] at hs'; cases hs'
        · rw [if_neg hl]
      | some s' =>
        have hF' := graphTo_found (most := more.toNat) (by omega) hf _ hx
        have hst := graph_stable hx hF'.most_le (most.toNat - more.toNat)
        rw [show more.toNat + (most.toNat - more.toNat) = most.toNat by omega, hcut] at hst
        by_cases hl : s.marks.length ≤ more.toNat
        · rw [if_pos hl] at hst ⊢; exact hst.symm
        · rw [if_neg hl] at hst; cases hst
    · rw [if_pos (by omega)] at hcut ⊢
      have := graph_stable hcut hle (more.toNat - most.toNat)
      rw [show most.toNat + (more.toNat - most.toNat) = more.toNat by omega] at this
      exact this
  rw [key]
  by_cases hl : s.marks.length ≤ more.toNat
  · rw [if_pos hl, if_pos (by omega)]
  · rw [if_neg hl, if_neg (by omega)]

/-- What Path answers. -/
def reachL (n : NetL) (m goal : List Int) (most : Int) : List Int × Int :=
  if (graphL n m most).2 == 0 then
    match findM (graphL n m most).1.marks goal with
    | some g => (pathL (graphL n m most).1 g, 0)
    | none => ([], 3)
  else ([], (graphL n m most).2)

theorem findM_at {ms : List (List Int)} (h : ms.Nodup) {k : Nat} (hk : k < ms.length) : findM ms (markAt ms k) = some k := by
  cases hf : findM ms (markAt ms k) with
  | none => exact absurd (markAt_mem hk) (findM_none hf)
  | some g =>
    obtain ⟨hg, e⟩ := findM_some hf
    rw [markAt_inj h hg hk e]

/-- Each mark is come to by its path, and by no run that is shorter. -/
theorem reach_true {n : NetL} {m : List Int} {most : Int} {s : SpaceL} (h : graphL n m most = (s, 0)) {k : Nat} (hk : k < s.marks.length) :
    ∃ p, reachL n m (markAt s.marks k) most = (p, 0) ∧ runL n m p = (markAt s.marks k, 0) ∧ ∀ seq, runL n m seq = (markAt s.marks k, 0) → p.length ≤ seq.length := by
  have hW := graphL_whole h
  refine ⟨pathL s k, ?_, hW.path k hk, fun seq hs => ?_⟩
  · unfold reachL
    rw [h]
    simp only [BEq.rfl, if_true]
    rw [findM_at hW.nodup hk]
  · have e := hW.here
    have := hW.short seq (f := 0) (g := k) e.1 hk (by rw [e.2]; exact hs)
    rw [pathL_zero] at this
    simpa using this

end Go.Proofs.YteoofibhpifmlaaDoor

/- Where a search breaks off; how many can be different. -/
namespace Go.Proofs.YteoofibhpifmlaaDoor
set_option linter.unusedVariables false
set_option maxRecDepth 4000

theorem row_broke {n : NetL} {m : List Int} {most k : Nat} {s : SpaceL} (h : Found n m most k 0 s) (hk : k < s.marks.length) : ∀ (t : Nat), t ≤ n.trans.length → rowTo n most k s t = none →
    ∃ j s', j < n.trans.length ∧ Found n m most k j s' ∧ k < s'.marks.length ∧ tryT n most k s' j = none
  | 0, _, e => by simp [rowTo] at e
  | t + 1, ht, e => by
    rw [rowTo] at e
    cases e1 : rowTo n most k s t with
    | none => exact row_broke h hk t (by omega) e1
    | some s1 =>
      rw [e1] at e
      obtain ⟨g1, l1⟩ := rowTo_found h hk t (by omega) e1
      exact ⟨t, s1, by omega, g1, Nat.lt_of_lt_of_le hk l1.le, e⟩
theorem graph_broke {n : NetL} {m : List Int} {most : Nat} (hm : 1 ≤ most) (hf : fitsL n m = true) : ∀ (k : Nat), graphTo n m most k = none →
    ∃ f j s', j < n.trans.length ∧ Found n m most f j s' ∧ f < s'.marks.length ∧ tryT n most f s' j = none
  | 0, e => by simp [graphTo] at e
  | k + 1, e => by
    rw [graphTo] at e
    cases e1 : graphTo n m most k with
    | none => exact graph_broke hm hf k e1
    | some s1 =>
      rw [e1] at e
      simp only [Option.bind_some] at e
      split at e
      · rename_i hk
        obtain ⟨j, s', q1, q2, q3, q4⟩ := row_broke (graphTo_found hm hf k e1) hk _ (Nat.le_refl _) e
        exact ⟨k, j, s', q1, q2, q3, q4⟩
      · cases e

theorem nodup_sub {l1 : List (List Int)} : ∀ {l2 : List (List Int)}, l1.Nodup → (∀ x ∈ l1, x ∈ l2) → l1.length ≤ l2.length := by
  induction l1 with
  | nil => intro l2 _ _; simp
  | cons a l ih =>
    intro l2 hn hs
    rw [List.nodup_cons] at hn
    have ha := hs a (by simp)
    have := ih (l2 := l2.erase a) hn.2 fun x hx => (List.mem_erase_of_ne (fun (e : x = a) => hn.1 (e ▸ hx))).2 (hs x (by simp [hx]))
    rw [List.length_erase_of_mem ha] at this
    have := List.length_pos_of_mem ha
    simp; omega

theorem graphOk_300 {n : NetL} {m : List Int} (hf : fitsL n m = true) : graphOk n m 300 = true := by simp [graphOk, hf]

end Go.Proofs.YteoofibhpifmlaaDoor

/- Plain words for what all marks of a net stay below. -/
namespace Go.Proofs.YteoofibhpifmlaaDoor
set_option linter.unusedVariables false
set_option maxRecDepth 4000

/-- Has a more than b? -1 is Many. -/
def moreL (a b : Int) : Bool := (b != -1) && ((a == -1) || decide (b < a))
theorem moreL_no {a b : Int} : moreL a b = false ↔ b = -1 ∨ (a ≠ -1 ∧ a ≤ b) := by
  unfold moreL
  rw [Bool.and_eq_false_iff, Bool.or_eq_false_iff, bne_eq_false_iff_eq, decide_eq_false_iff_not, beq_eq_false_iff_ne]
  omega
theorem moreL_yes {a b : Int} : moreL a b = true ↔ b ≠ -1 ∧ (a = -1 ∨ b < a) := by
  unfold moreL
  rw [Bool.and_eq_true, Bool.or_eq_true, bne_iff_ne, decide_eq_true_eq, beq_iff_eq]

def belowTo (a b : List Int) (k : Nat) : Bool := (List.range k).all fun p => !moreL (nth a p) (nth b p)
/-- Nowhere more. -/
def belowL (a b : List Int) : Bool := belowTo a b b.length
theorem belowTo_succ (a b : List Int) (k : Nat) : belowTo a b (k + 1) = (belowTo a b k && !moreL (nth a k) (nth b k)) := by
  simp [belowTo, List.range_succ]
theorem belowTo_iff (a b : List Int) (k : Nat) : belowTo a b k = true ↔ ∀ p, p < k → moreL (nth a p) (nth b p) = false := by
  simp [belowTo, List.all_eq_true]
theorem belowL_iff (a b : List Int) : belowL a b = true ↔ ∀ p, p < b.length → moreL (nth a p) (nth b p) = false := belowTo_iff a b b.length
theorem belowTo_no {a b : List Int} {k : Nat} (hk : k < b.length) (h : moreL (nth a k) (nth b k) = true) : belowL a b = false := by
  cases e : belowL a b
  · rfl
  · rw [(belowL_iff a b).1 e k hk] at h; cases h

def mapTo (k : Nat) (f : Nat → Int) : List Int := (List.range k).map f
theorem mapTo_succ (k : Nat) (f : Nat → Int) : mapTo (k + 1) f = mapTo k f ++ [f k] := by simp [mapTo, List.range_succ]
theorem mapTo_length (k : Nat) (f : Nat → Int) : (mapTo k f).length = k := by simp [mapTo]
theorem mapTo_nth (k : Nat) (f : Nat → Int) (p : Nat) (h : p < k) : nth (mapTo k f) p = f p := by simp [mapTo, nth, List.getD, h]

/-- What firing comes to. -/
def omAt (t : TranL) (m : List Int) (p : Nat) : Int := if nth m p = -1 then -1 else nth m p - nth t.pre p + nth t.post p
def omFire (t : TranL) (m : List Int) : List Int := mapTo m.length (omAt t m)

/-- Those places where x has more than y have Many, if y is below x. -/
def raiseAt (y x : List Int) (p : Nat) : Int := if moreL (nth x p) (nth y p) then -1 else nth x p
def raise1 (y x : List Int) : List Int := if belowL y x then mapTo x.length (raiseAt y x) else x
def raiseAll (mine : List (List Int)) (x : List Int) : List Int := mine.foldl (fun x y => raise1 y x) x
def raiseN (mine : List (List Int)) (x : List Int) : Nat → List Int
  | 0 => x
  | r + 1 => raiseAll mine (raiseN mine x r)

/-- As it was, but where it has Many. -/
def Raised (x z : List Int) : Prop := z.length = x.length ∧ ∀ p, nth z p = -1 ∨ nth z p = nth x p
theorem Raised.refl (x : List Int) : Raised x x := ⟨rfl, fun _ => .inr rfl⟩
theorem Raised.trans {x y z : List Int} (h : Raised x y) (k : Raised y z) : Raised x z := by
  refine ⟨k.1.trans h.1, fun p => ?_⟩
  rcases k.2 p with e | e
  · exact .inl e
  · rw [e]; exact h.2 p
theorem raise1_raised (y x : List Int) : Raised x (raise1 y x) := by
  unfold raise1
  split
  · refine ⟨mapTo_length _ _, fun p => ?_⟩
    by_cases hp : p < x.length
    · rw [mapTo_nth _ _ _ hp, raiseAt]
      split
      · exact .inl rfl
      · exact .inr rfl
    · rw [nth_past _ p (by rw [mapTo_length]; omega), nth_past x p (by omega)]; exact .inr rfl
  · exact Raised.refl x
theorem raiseAll_raised (mine : List (List Int)) : ∀ x, Raised x (raiseAll mine x) := by
  induction mine with
  | nil => exact fun x => Raised.refl x
  | cons y r ih => exact fun x => (raise1_raised y x).trans (ih (raise1 y x))
theorem raiseN_raised (mine : List (List Int)) (x : List Int) : ∀ r, Raised x (raiseN mine x r)
  | 0 => Raised.refl x
  | r + 1 => (raiseN_raised mine x r).trans (raiseAll_raised mine _)
/-- Where nothing has Many, it is as it was. -/
theorem Raised.same {x z : List Int} (h : Raised x z) (hz : ∀ p, nth z p ≠ -1) : z = x := eq_of_at h.1 fun p => by
  rcases h.2 p with e | e
  · exact absurd e (hz p)
  · exact e

/-- Where nobody is below with less somewhere, nothing is changed. -/
theorem raise_still {mine : List (List Int)} {x : List Int} (h : ∀ y ∈ mine, belowL y x = true → ∀ p, p < x.length → moreL (nth x p) (nth y p) = false) (r : Nat) : raiseN mine x r = x := by
  have h1 : ∀ y ∈ mine, raise1 y x = x := by
    intro y hy
    unfold raise1
    split
    · rename_i hb
      refine eq_of_at (mapTo_length _ _) fun p => ?_
      by_cases hp : p < x.length
      · rw [mapTo_nth _ _ _ hp, raiseAt, h y hy hb p hp]; rfl
      · rw [nth_past _ p (by rw [mapTo_length]; omega), nth_past x p (by omega)]
    · rfl
  have h2 : raiseAll mine x = x := by
    clear h
    unfold raiseAll
    induction mine with
    | nil => rfl
    | cons y l ih => rw [List.foldl_cons, h1 y (by simp)]; exact ih fun z hz => h1 z (by simp [hz])
  induction r with
  | zero => rfl
  | succ r ih => rw [raiseN, ih, h2]

/-- A knot, with the marks that it comes of. -/
structure KnotX where
  up : Int
  tran : Int
  mark : List Int
  line : List (List Int)

/-- A knot as it is answered. -/
structure KnotL where
  up : Int
  tran : Int
  mark : List Int

def KnotX.knot (x : KnotX) : KnotL := ⟨x.up, x.tran, x.mark⟩
def KnotX.mine (x : KnotX) : List (List Int) := x.line ++ [x.mark]
def noKnot : KnotX := ⟨0, 0, [], []⟩
def knotAt (s : List KnotX) (k : Nat) : KnotX := s.getD k noKnot
theorem knotAt_append {s r : List KnotX} {k : Nat} (h : k < s.length) : knotAt (s ++ r) k = knotAt s k := by
  rw [knotAt, knotAt, List.getD_eq_getElem?_getD, List.getD_eq_getElem?_getD, List.getElem?_append_left h]
theorem knotAt_last (s : List KnotX) (x : KnotX) : knotAt (s ++ [x]) s.length = x := by
  rw [knotAt, List.getD_eq_getElem?_getD, List.getElem?_append_right (Nat.le_refl _)]; simp
theorem knotAt_get {s : List KnotX} {k : Nat} (h : k < s.length) : knotAt s k = s[k] := by
  rw [knotAt, List.getD_eq_getElem?_getD, List.getElem?_eq_getElem h]; rfl

/-- What comes of a knot by a transition. -/
def kid (n : NetL) (k t : Nat) (x : KnotX) : KnotX := ⟨k, t, raiseN x.mine (omFire (tranAt n.trans t) x.mark) (n.places.toNat + 1), x.mine⟩
def growT (n : NetL) (most k : Nat) (s : List KnotX) (t : Nat) : Option (List KnotX) :=
  if belowL (tranAt n.trans t).pre (knotAt s k).mark then (if most ≤ s.length then none else some (s ++ [kid n k t (knotAt s k)])) else some s
def growTo (n : NetL) (most k : Nat) (s : List KnotX) : Nat → Option (List KnotX)
  | 0 => some s
  | t + 1 => (growTo n most k s t).bind fun s' => growT n most k s' t
def seenK (x : KnotX) : Bool := x.line.contains x.mark
def rootK (m : List Int) : KnotX := ⟨-1, -1, m, []⟩
/-- The first k knots are done. -/
def treeTo (n : NetL) (m : List Int) (most : Nat) : Nat → Option (List KnotX)
  | 0 => some [rootK m]
  | k + 1 => (treeTo n m most k).bind fun s => if k < s.length then (if seenK (knotAt s k) then some s else growTo n most k s n.trans.length) else some s

def treeL (n : NetL) (m : List Int) (most : Int) : List KnotL × Int :=
  if graphOk n m most then
    match treeTo n m most.toNat most.toNat with
    | some s => (s.map KnotX.knot, 0)
    | none => ([], 4)
  else ([], 2)

/-- The most at a place. -/
def topL (p : Nat) (l : List KnotL) (x : Int) : Int := l.foldl (fun x k => if moreL (nth k.mark p) x then nth k.mark p else x) x
def limitL (n : NetL) (m : List Int) (p most : Int) : Int × Int :=
  if (treeL n m most).2 == 0 then (if decide (0 ≤ p) && decide (p < n.places) then (topL p.toNat (treeL n m most).1 0, 0) else (0, 3)) else (0, (treeL n m most).2)

/-- What holds while knots come: k knots are done, and t transitions of knot k. -/
structure Grown (n : NetL) (m : List Int) (most k t : Nat) (s : List KnotX) : Prop where
  most_le : s.length ≤ most
  pos : 0 < s.length
  first : knotAt s 0 = rootK m
  child : ∀ j, 0 < j → j < s.length → ∃ u t', u < j ∧ t' < n.trans.length ∧ belowL (tranAt n.trans t').pre (knotAt s u).mark = true ∧ knotAt s j = kid n u t' (knotAt s u)
  whole : ∀ f j, f < s.length → j < n.trans.length → (f < k ∨ f = k ∧ j < t) → seenK (knotAt s f) = true ∨ belowL (tranAt n.trans j).pre (knotAt s f).mark = false ∨ ∃ g, g < s.length ∧ knotAt s g = kid n f j (knotAt s f)

theorem Grown.start {n : NetL} {m : List Int} {most : Nat} (hm : 1 ≤ most) : Grown n m most 0 0 [rootK m] where
  most_le := hm
  pos := Nat.one_pos
  first := rfl
  child := by intro j h1 h2; simp at h2; omega
  whole := by intro f j h1 h2 h3; omega

theorem Grown.step {n : NetL} {m : List Int} {most k t : Nat} {s s' : List KnotX} (h : Grown n m most k t s) (hk : k < s.length) (ht : t < n.trans.length) (e : growT n most k s t = some s') :
    Grown n m most k (t + 1) s' ∧ s.length ≤ s'.length ∧ ∀ j, j < s.length → knotAt s' j = knotAt s j := by
  unfold growT at e
  split at e
  · rename_i hb
    split at e
    · cases e
    · rename_i hl
      injection e with e
      subst e
      have hlen : (s ++ [kid n k t (knotAt s k)]).length = s.length + 1 := by simp
      refine ⟨⟨by omega, by omega, by rw [knotAt_append h.pos]; exact h.first, ?_, ?_⟩, by omega, fun j hj => knotAt_append hj⟩
      · intro j h1 h2
        by_cases hj : j < s.length
        · obtain ⟨u, t', q1, q2, q3, q4⟩ := h.child j h1 hj
          exact ⟨u, t', q1, q2, by rw [knotAt_append (by omega)]; exact q3, by rw [knotAt_append hj, knotAt_append (by omega)]; exact q4⟩
        · have e : j = s.length := by omega
          subst e
          exact ⟨k, t, hk, ht, by rw [knotAt_append hk]; exact hb, by rw [knotAt_last, knotAt_append hk]⟩
      · intro f j h1 h2 h3
        have hf : f < s.length := by omega
        rw [knotAt_append hf]
        by_cases hn : f = k ∧ j = t
        · obtain ⟨rfl, rfl⟩ := hn
          exact .inr (.inr ⟨s.length, by omega, by rw [knotAt_last]⟩)
        · rcases h.whole f j hf h2 (by omega) with q | q | ⟨g, q1, q2⟩
          · exact .inl q
          · exact .inr (.inl q)
          · exact .inr (.inr ⟨g, by omega, by rw [knotAt_append q1]; exact q2⟩)
  · rename_i hb
    injection e with e
    subst e
    refine ⟨⟨h.most_le, h.pos, h.first, h.child, ?_⟩, Nat.le_refl _, fun j _ => rfl⟩
    intro f j h1 h2 h3
    by_cases hn : f = k ∧ j = t
    · obtain ⟨rfl, rfl⟩ := hn
      exact .inr (.inl (by simpa using hb))
    · exact h.whole f j h1 h2 (by omega)

theorem growTo_grown {n : NetL} {m : List Int} {most k : Nat} {s : List KnotX} (h : Grown n m most k 0 s) (hk : k < s.length) : ∀ (t : Nat) {s' : List KnotX}, t ≤ n.trans.length → growTo n most k s t = some s' →
    Grown n m most k t s' ∧ s.length ≤ s'.length ∧ ∀ j, j < s.length → knotAt s' j = knotAt s j
  | 0, s', _, e => by rw [growTo] at e; injection e with e; subst e; exact ⟨h, Nat.le_refl _, fun _ _ => rfl⟩
  | t + 1, s', ht, e => by
    rw [growTo] at e
    cases e1 : growTo n most k s t with
    | none => rw [e1] at e; cases e
    | some s1 =>
      rw [e1] at e
      obtain ⟨g1, l1, k1⟩ := growTo_grown h hk t (by omega) e1
      obtain ⟨g2, l2, k2⟩ := g1.step (Nat.lt_of_lt_of_le hk l1) (by omega) e
      exact ⟨g2, Nat.le_trans l1 l2, fun j hj => (k2 j (Nat.lt_of_lt_of_le hj l1)).trans (k1 j hj)⟩

theorem treeTo_grown {n : NetL} {m : List Int} {most : Nat} (hm : 1 ≤ most) : ∀ (k : Nat) {s : List KnotX}, treeTo n m most k = some s → Grown n m most k 0 s
  | 0, s, e => by rw [treeTo] at e; injection e with e; subst e; exact Grown.start hm
  | k + 1, s, e => by
    rw [treeTo] at e
    cases e1 : treeTo n m most k with
    | none => rw [e1] at e; cases e
    | some s1 =>
      have g1 := treeTo_grown hm k e1
      rw [e1] at e
      simp only [Option.bind_some] at e
      split at e
      · rename_i hk
        split at e
        · rename_i hs
          injection e with e
          subst e
          refine ⟨g1.most_le, g1.pos, g1.first, g1.child, ?_⟩
          intro f j h1 h2 h3
          by_cases hf : f = k
          · subst hf; exact .inl hs
          · exact g1.whole f j h1 h2 (by omega)
        · obtain ⟨g2, _, _⟩ := growTo_grown g1 hk _ (Nat.le_refl _) e
          exact ⟨g2.most_le, g2.pos, g2.first, g2.child, fun f j h1 h2 h3 => g2.whole f j h1 h2 (by omega)⟩
      · rename_i hk
        injection e with e
        subst e
        exact ⟨g1.most_le, g1.pos, g1.first, g1.child, fun f j h1 h2 h3 => g1.whole f j h1 h2 (by omega)⟩

/-- A tree that is whole. -/
structure TreeOk (n : NetL) (m : List Int) (s : List KnotX) : Prop where
  room : s.length ≤ 300
  fits : fitsL n m = true
  pos : 0 < s.length
  first : knotAt s 0 = rootK m
  child : ∀ j, 0 < j → j < s.length → ∃ u t', u < j ∧ t' < n.trans.length ∧ belowL (tranAt n.trans t').pre (knotAt s u).mark = true ∧ knotAt s j = kid n u t' (knotAt s u)
  whole : ∀ f j, f < s.length → j < n.trans.length → seenK (knotAt s f) = true ∨ belowL (tranAt n.trans j).pre (knotAt s f).mark = false ∨ ∃ g, g < s.length ∧ knotAt s g = kid n f j (knotAt s f)

theorem treeL_ok {n : NetL} {m : List Int} {most : Int} {l : List KnotL} (h : treeL n m most = (l, 0)) : ∃ s, l = s.map KnotX.knot ∧ TreeOk n m s := by
  unfold treeL at h
  split at h
  · rename_i hg
    simp only [graphOk, Bool.and_eq_true, decide_eq_true_eq] at hg
    split at h
    · rename_i s e
      simp only [Prod.mk.injEq, and_true] at h
      have g := treeTo_grown (by omega) _ e
      exact ⟨s, h.symm, by have := g.most_le; omega, hg.2, g.pos, g.first, g.child, fun f j h1 h2 => g.whole f j h1 h2 (.inl (by have := g.most_le; omega))⟩
    · simp at h
  · simp at h
theorem treeL_err {n : NetL} {m : List Int} {most : Int} (h : (treeL n m most).2 ≠ 0) : (treeL n m most).1 = [] := by
  unfold treeL at h ⊢
  split
  · rename_i hg
    rw [if_pos hg] at h
    split at h
    · simp at h
    · rfl
  · rfl
theorem treeL_code (n : NetL) (m : List Int) (most : Int) : (treeL n m most).2 = 0 ∨ (treeL n m most).2 = 2 ∨ (treeL n m most).2 = 4 := by
  unfold treeL
  split
  · split
    · exact .inl rfl
    · exact .inr (.inr rfl)
  · exact .inr (.inl rfl)

end Go.Proofs.YteoofibhpifmlaaDoor

/- Plain facts on trees that cover: nothing rises above them, what has nowhere Many is bounded, where there are Many there is no end. -/
namespace Go.Proofs.YteoofibhpifmlaaDoor
set_option linter.unusedVariables false
set_option maxRecDepth 4000

theorem tran_weights {n : NetL} (hn : netOk n = true) {k : Nat} (hk : k < n.trans.length) (j : Nat) :
    (0 ≤ nth (tranAt n.trans k).pre j ∧ nth (tranAt n.trans k).pre j ≤ 9) ∧ 0 ≤ nth (tranAt n.trans k).post j ∧ nth (tranAt n.trans k).post j ≤ 9 := by
  have h := net_tran hn hk
  simp only [tranOk, tranHead, Bool.and_eq_true, List.all_append] at h
  have go : ∀ {xs : List Int}, xs.all weightOk = true → ∀ j, 0 ≤ nth xs j ∧ nth xs j ≤ 9 := by
    intro xs h j
    by_cases hj : j < xs.length
    · have := List.all_eq_true.1 h _ (List.getElem_mem hj)
      simp only [weightOk, Bool.and_eq_true, decide_eq_true_eq] at this
      simpa only [nth, List.getD, List.getElem?_eq_getElem hj, Option.getD_some] using this
    · rw [nth_past xs j (by omega)]; omega
  exact ⟨go h.2.1 j, go h.2.2 j⟩

/-- The shape of a mark of knot j. -/
def MarkOk (n : NetL) (j : Nat) (x : List Int) : Prop := (x.length : Int) = n.places ∧ ∀ p, -1 ≤ nth x p ∧ nth x p ≤ 1000000 + 9 * (j : Int)

theorem omFire_at {n : NetL} (hn : netOk n = true) {t : Nat} (ht : t < n.trans.length) {x : List Int} (hb : belowL (tranAt n.trans t).pre x = true) {j : Nat} (hx : MarkOk n j x) (p : Nat) :
    -1 ≤ nth (omFire (tranAt n.trans t) x) p ∧ nth (omFire (tranAt n.trans t) x) p ≤ 1000000 + 9 * (j : Int) + 9 := by
  obtain ⟨w1, w2⟩ := tran_weights hn ht p
  obtain ⟨x1, x2⟩ := hx.2 p
  unfold omFire
  by_cases hp : p < x.length
  · rw [mapTo_nth _ _ _ hp, omAt]
    have := (belowL_iff _ _).1 hb p hp
    rw [moreL_no] at this
    split <;> omega
  · rw [nth_past _ p (by rw [mapTo_length]; omega)]; omega
theorem kid_ok {n : NetL} (hn : netOk n = true) {u t : Nat} (ht : t < n.trans.length) {x : KnotX} (hb : belowL (tranAt n.trans t).pre x.mark = true) {j : Nat} (hx : MarkOk n u x.mark) (hu : u < j) : MarkOk n j (kid n u t x).mark := by
  obtain ⟨r1, r2⟩ := raiseN_raised x.mine (omFire (tranAt n.trans t) x.mark) (n.places.toNat + 1)
  refine ⟨by show ((raiseN _ _ _).length : Int) = _; rw [r1, omFire, mapTo_length]; exact hx.1, fun p => ?_⟩
  have h := omFire_at hn ht hb hx p
  show -1 ≤ nth (raiseN _ _ _) p ∧ nth (raiseN _ _ _) p ≤ _
  rcases r2 p with e | e <;> rw [e] <;> omega

theorem marks_ok {n : NetL} {m : List Int} {s : List KnotX} (hf : fitsL n m = true) (h0 : knotAt s 0 = rootK m)
    (hc : ∀ j, 0 < j → j < s.length → ∃ u t', u < j ∧ t' < n.trans.length ∧ belowL (tranAt n.trans t').pre (knotAt s u).mark = true ∧ knotAt s j = kid n u t' (knotAt s u)) :
    ∀ j, j < s.length → MarkOk n j (knotAt s j).mark := by
  obtain ⟨hn, hl, hr⟩ := fits_net hf
  intro j
  induction j using Nat.strongRecOn with
  | ind j ih =>
    intro hj
    by_cases e : j = 0
    · subst e
      rw [h0]
      refine ⟨hl, fun p => ?_⟩
      have := (rightL_iff m).1 hr p
      show -1 ≤ nth m p ∧ nth m p ≤ _
      omega
    · obtain ⟨u, t, hu, ht, hb, e1⟩ := hc j (by omega) hj
      rw [e1]
      exact kid_ok hn ht hb (ih u hu (by omega)) hu
theorem TreeOk.marks {n : NetL} {m : List Int} {s : List KnotX} (h : TreeOk n m s) {j : Nat} (hj : j < s.length) : MarkOk n j (knotAt s j).mark := marks_ok h.fits h.first h.child j hj
theorem Grown.marks {n : NetL} {m : List Int} {most k t : Nat} {s : List KnotX} (h : Grown n m most k t s) (hf : fitsL n m = true) {j : Nat} (hj : j < s.length) : MarkOk n j (knotAt s j).mark := marks_ok hf h.first h.child j hj

/-- What a knot comes of are marks of knots ahead of it. -/
theorem line_mem {n : NetL} {m : List Int} {s : List KnotX} (h0 : knotAt s 0 = rootK m)
    (hc : ∀ j, 0 < j → j < s.length → ∃ u t', u < j ∧ t' < n.trans.length ∧ belowL (tranAt n.trans t').pre (knotAt s u).mark = true ∧ knotAt s j = kid n u t' (knotAt s u)) :
    ∀ j, j < s.length → ∀ y ∈ (knotAt s j).line, ∃ i, i < j ∧ (knotAt s i).mark = y := by
  intro j
  induction j using Nat.strongRecOn with
  | ind j ih =>
    intro hj y hy
    by_cases e : j = 0
    · subst e; rw [h0] at hy; simp [rootK] at hy
    · obtain ⟨u, t, hu, ht, hb, e1⟩ := hc j (by omega) hj
      rw [e1] at hy
      rcases List.mem_append.1 (show y ∈ (knotAt s u).line ++ [(knotAt s u).mark] from hy) with q | q
      · obtain ⟨i, h1, h2⟩ := ih u hu (by omega) y q
        exact ⟨i, by omega, h2⟩
      · exact ⟨u, hu, (List.mem_singleton.1 q).symm⟩

theorem line_len {n : NetL} {m : List Int} {s : List KnotX} (h0 : knotAt s 0 = rootK m)
    (hc : ∀ j, 0 < j → j < s.length → ∃ u t', u < j ∧ t' < n.trans.length ∧ belowL (tranAt n.trans t').pre (knotAt s u).mark = true ∧ knotAt s j = kid n u t' (knotAt s u)) :
    ∀ j, j < s.length → (knotAt s j).line.length ≤ j := by
  intro j
  induction j using Nat.strongRecOn with
  | ind j ih =>
    intro hj
    by_cases e : j = 0
    · subst e; rw [h0]; simp [rootK]
    · obtain ⟨u, t, hu, ht, hb, e1⟩ := hc j (by omega) hj
      have := ih u hu (by omega)
      rw [e1]
      show ((knotAt s u).line ++ [(knotAt s u).mark]).length ≤ j
      simp; omega
theorem Grown.line {n : NetL} {m : List Int} {most k t : Nat} {s : List KnotX} (h : Grown n m most k t s) {j : Nat} (hj : j < s.length) : (knotAt s j).line.length ≤ j := line_len h.first h.child j hj

theorem Grown.mineLen {n : NetL} {m : List Int} {most k t : Nat} {s : List KnotX} (h : Grown n m most k t s) (hf : fitsL n m = true) {i : Nat} (hi : i < s.length) {j : Nat} (hj : j < (knotAt s i).mine.length) : ((markAt (knotAt s i).mine j).length : Int) = n.places := by
  rcases List.mem_append.1 (show markAt (knotAt s i).mine j ∈ (knotAt s i).line ++ [(knotAt s i).mark] from markAt_mem hj) with q | q
  · obtain ⟨u, h1, h2⟩ := line_mem h.first h.child i hi _ q
    rw [← h2]; exact (h.marks hf (by omega)).1
  · rw [List.mem_singleton] at q; rw [q]; exact (h.marks hf hi).1

/-- Each mark is one of a knot that nothing ahead is the same as. -/
theorem TreeOk.unseen {n : NetL} {m : List Int} {s : List KnotX} (h : TreeOk n m s) : ∀ j, j < s.length → ∃ i, i < s.length ∧ (knotAt s i).mark = (knotAt s j).mark ∧ seenK (knotAt s i) = false := by
  intro j
  induction j using Nat.strongRecOn with
  | ind j ih =>
    intro hj
    cases hs : seenK (knotAt s j)
    · exact ⟨j, hj, rfl, hs⟩
    · obtain ⟨i, h1, h2⟩ := line_mem h.first h.child j hj _ (List.contains_iff_mem.1 hs)
      obtain ⟨i', q1, q2, q3⟩ := ih i h1 (by omega)
      exact ⟨i', q1, q2.trans h2, q3⟩

/-- At each place as many, or Many. -/
def CovM (u x : List Int) : Prop := u.length = x.length ∧ ∀ p, p < x.length → nth u p = -1 ∨ nth x p ≤ nth u p

theorem TreeOk.cov_step {n : NetL} {m x y : List Int} {s : List KnotX} {t : Int} (h : TreeOk n m s) (hx : ∃ k, k < s.length ∧ CovM (knotAt s k).mark x) (hf : fireL n x t = (y, 0)) : ∃ k, k < s.length ∧ CovM (knotAt s k).mark y := by
  obtain ⟨k0, hk0, hc0⟩ := hx
  obtain ⟨k, hk, e, hu⟩ := h.unseen k0 hk0
  have hc : CovM (knotAt s k).mark x := by rw [e]; exact hc0
  obtain ⟨j, rfl, hj, hfx, hcv, _, rfl⟩ := fire_ok hf
  rw [coversL_iff] at hcv
  obtain ⟨hn, hl, hr⟩ := fits_net hfx
  obtain ⟨l1, l2⟩ := tran_length hn hj
  have hb : belowL (tranAt n.trans j).pre (knotAt s k).mark = true := by
    rw [belowL_iff]
    intro p hp
    rw [moreL_no]
    have := hcv p
    obtain ⟨⟨w1, _⟩, _⟩ := tran_weights hn hj p
    rcases hc.2 p (by rw [← hc.1]; exact hp) with q | q
    · exact .inl q
    · exact .inr (by omega)
  rcases h.whole k j hk hj with q | q | ⟨g, hg, e2⟩
  · rw [q] at hu; cases hu
  · rw [q] at hb; cases hb
  · refine ⟨g, hg, ?_⟩
    rw [e2]
    obtain ⟨r1, r2⟩ := raiseN_raised (knotAt s k).mine (omFire (tranAt n.trans j) (knotAt s k).mark) (n.places.toNat + 1)
    have hlen : (addL (subL x (tranAt n.trans j).pre) (tranAt n.trans j).post).length = x.length := by rw [add_length, sub_length]; omega
    refine ⟨by rw [hlen, ← hc.1]; exact r1.trans (mapTo_length _ _), fun p hp => ?_⟩
    rw [hlen] at hp
    show nth (raiseN _ _ _) p = -1 ∨ _ ≤ nth (raiseN _ _ _) p
    rcases r2 p with q | q
    · exact .inl q
    · rw [q, omFire, mapTo_nth _ _ _ (by rw [hc.1]; exact hp), omAt, add_at, sub_at]
      split
      · exact .inl rfl
      · rename_i hne
        rcases hc.2 p hp with q2 | q2
        · exact absurd q2 hne
        · exact .inr (by omega)

theorem TreeOk.cov_run {n : NetL} {m : List Int} {s : List KnotX} (h : TreeOk n m s) (seq : List Int) : ∀ {a x : List Int}, (∃ k, k < s.length ∧ CovM (knotAt s k).mark a) → runL n a seq = (x, 0) → ∃ k, k < s.length ∧ CovM (knotAt s k).mark x := by
  induction seq with
  | nil => intro a x ha e; obtain ⟨_, rfl⟩ := run_nil.1 e; exact ha
  | cons t ts ih => intro a x ha e; obtain ⟨z, h1, h2⟩ := run_cons.1 e; exact ih (h.cov_step ha h1) h2
/-- Nothing rises above it. -/
theorem TreeOk.covers {n : NetL} {m x : List Int} {s : List KnotX} (h : TreeOk n m s) {seq : List Int} (e : runL n m seq = (x, 0)) : ∃ k, k < s.length ∧ CovM (knotAt s k).mark x :=
  h.cov_run seq ⟨0, h.pos, by rw [h.first]; exact ⟨rfl, fun p _ => .inr (Int.le_refl _)⟩⟩ e

/-- A firing, however many tokens there are. -/
def StepZ (n : NetL) (x : List Int) (t : Nat) (y : List Int) : Prop := t < n.trans.length ∧ (∀ p, nth (tranAt n.trans t).pre p ≤ nth x p) ∧ y = addL (subL x (tranAt n.trans t).pre) (tranAt n.trans t).post
/-- What is come to by firings. -/
def ReachZ (n : NetL) (a b : List Int) : Prop := ∀ P : List Int → Prop, P a → (∀ (x y : List Int) (t : Nat), P x → StepZ n x t y → P y) → P b
theorem ReachZ.here {n : NetL} {a : List Int} : ReachZ n a a := fun _ h _ => h
theorem ReachZ.step {n : NetL} {a x y : List Int} {t : Nat} (h : ReachZ n a x) (hs : StepZ n x t y) : ReachZ n a y := fun P h0 h1 => h1 x y t (h P h0 h1) hs
theorem ReachZ.ind {n : NetL} {a : List Int} {motive : (b : List Int) → ReachZ n a b → Prop} (here : motive a ReachZ.here) (step : ∀ {x y : List Int} {t : Nat} (h : ReachZ n a x) (hs : StepZ n x t y), motive x h → motive y (h.step hs)) {b : List Int} (h : ReachZ n a b) : motive b h := by
  obtain ⟨h', q⟩ := h (fun b => ∃ h : ReachZ n a b, motive b h) ⟨ReachZ.here, here⟩ (fun x y t ⟨hx, qx⟩ hs => ⟨hx.step hs, step hx hs qx⟩)
  exact q
theorem ReachZ.trans {n : NetL} {a b c : List Int} (h : ReachZ n a b) (k : ReachZ n b c) : ReachZ n a c := by
  induction k using ReachZ.ind with
  | here => exact h
  | step _ hs ih => exact ih.step hs
theorem ReachZ.length {n : NetL} (hn : netOk n = true) {a b : List Int} (h : ReachZ n a b) (ha : (a.length : Int) = n.places) : (b.length : Int) = n.places := by
  induction h using ReachZ.ind with
  | here => exact ha
  | step _ hs ih =>
    obtain ⟨ht, _, rfl⟩ := hs
    obtain ⟨l1, l2⟩ := tran_length hn ht
    rw [add_length, sub_length]; omega
theorem StepZ.nonneg {n : NetL} (hn : netOk n = true) {x y : List Int} {t : Nat} (h : StepZ n x t y) (p : Nat) : 0 ≤ nth y p := by
  obtain ⟨ht, hc, rfl⟩ := h
  have := hc p
  have := (tran_weights hn ht p).2
  rw [add_at, sub_at]; omega
/-- With so much more it can be done as well. -/
theorem ReachZ.more {n : NetL} (hn : netOk n = true) {a b d : List Int} (h : ReachZ n a b) (ha : (a.length : Int) = n.places) (hd : (d.length : Int) = n.places) (h0 : ∀ p, 0 ≤ nth d p) : ReachZ n (addL a d) (addL b d) := by
  induction h using ReachZ.ind with
  | here => exact .here
  | @step x y t hr hs ih =>
    refine ih.step (t := t) ?_
    have hx := hr.length hn ha
    obtain ⟨ht, hc, rfl⟩ := hs
    obtain ⟨l1, l2⟩ := tran_length hn ht
    refine ⟨ht, fun p => by rw [add_at]; have := hc p; have := h0 p; omega, eq_of_at (by simp only [add_length, sub_length]; omega) fun p => by simp only [add_at, sub_at]; omega⟩

theorem omFire_plain {n : NetL} (hn : netOk n = true) {t : Nat} (ht : t < n.trans.length) {x : List Int} (hl : (x.length : Int) = n.places) (h : ∀ p, nth x p ≠ -1) : omFire (tranAt n.trans t) x = addL (subL x (tranAt n.trans t).pre) (tranAt n.trans t).post := by
  obtain ⟨l1, l2⟩ := tran_length hn ht
  refine eq_of_at (by rw [omFire, mapTo_length, add_length, sub_length]; omega) fun p => ?_
  rw [add_at, sub_at]
  by_cases hp : p < x.length
  · rw [omFire, mapTo_nth _ _ _ hp, omAt, if_neg (h p)]
  · rw [omFire, nth_past _ p (by rw [mapTo_length]; omega), nth_past x p (by omega), nth_past (tranAt n.trans t).pre p (by omega), nth_past (tranAt n.trans t).post p (by omega)]; rfl
theorem below_plain {n : NetL} (hn : netOk n = true) {t : Nat} (ht : t < n.trans.length) {x : List Int} (hl : (x.length : Int) = n.places) (h : ∀ p, nth x p ≠ -1) : belowL (tranAt n.trans t).pre x = true ↔ ∀ p, nth (tranAt n.trans t).pre p ≤ nth x p := by
  obtain ⟨l1, l2⟩ := tran_length hn ht
  rw [belowL_iff]
  constructor
  · intro q p
    by_cases hp : p < x.length
    · have := q p hp; rw [moreL_no] at this; have := h p; omega
    · rw [nth_past _ p (by omega), nth_past x p (by omega)]; omega
  · intro q p hp
    rw [moreL_no]
    have := q p
    have := (tran_weights hn ht p).1
    omega

/-- Where the first J knots have nowhere Many, they are come to; and what they come of leads to them. -/
theorem TreeOk.exact {n : NetL} {m : List Int} {s : List KnotX} (h : TreeOk n m s) {J : Nat} (hJ : J ≤ s.length) (hm : ∀ i, i < J → ∀ p, nth (knotAt s i).mark p ≠ -1) : ∀ i, i < J →
    ReachZ n m (knotAt s i).mark ∧ ∀ y ∈ (knotAt s i).line, ReachZ n m y ∧ ReachZ n y (knotAt s i).mark := by
  obtain ⟨hn, hl, hr⟩ := fits_net h.fits
  intro i
  induction i using Nat.strongRecOn with
  | ind i ih =>
    intro hi
    by_cases e : i = 0
    · subst e
      rw [h.first]
      exact ⟨.here, fun y hy => by simp [rootK] at hy⟩
    · obtain ⟨u, t, hu, ht, hb, e1⟩ := h.child i (by omega) (by omega)
      obtain ⟨q1, q2⟩ := ih u hu (by omega)
      have hmu := hm u (by omega)
      have hlu := (h.marks (j := u) (by omega)).1
      have hz : (knotAt s i).mark = addL (subL (knotAt s u).mark (tranAt n.trans t).pre) (tranAt n.trans t).post := by
        have r := raiseN_raised (knotAt s u).mine (omFire (tranAt n.trans t) (knotAt s u).mark) (n.places.toNat + 1)
        have := r.same (fun p => by have := hm i hi p; rw [e1] at this; exact this)
        rw [e1]
        exact this.trans (omFire_plain hn ht hlu hmu)
      have hst : StepZ n (knotAt s u).mark t (knotAt s i).mark := ⟨ht, (below_plain hn ht hlu hmu).1 hb, hz⟩
      refine ⟨q1.step hst, fun y hy => ?_⟩
      rw [e1] at hy
      rcases List.mem_append.1 (show y ∈ (knotAt s u).line ++ [(knotAt s u).mark] from hy) with q | q
      · exact ⟨(q2 y q).1, (q2 y q).2.step hst⟩
      · rw [List.mem_singleton] at q; subst q; exact ⟨q1, ReachZ.here.step hst⟩

/-- Where nothing has Many, all that is come to is there. -/
theorem TreeOk.all {n : NetL} {m x : List Int} {s : List KnotX} (h : TreeOk n m s) (hm : ∀ i, i < s.length → ∀ p, nth (knotAt s i).mark p ≠ -1) (hr : ReachZ n m x) : ∃ k, k < s.length ∧ (knotAt s k).mark = x := by
  obtain ⟨hn, hl, _⟩ := fits_net h.fits
  induction hr using ReachZ.ind with
  | here => exact ⟨0, h.pos, by rw [h.first]; rfl⟩
  | @step x y t _ hs ih =>
    obtain ⟨k0, hk0, e0⟩ := ih
    obtain ⟨k, hk, e, hu⟩ := h.unseen k0 hk0
    rw [e0] at e
    obtain ⟨ht, hc, rfl⟩ := hs
    have hlk := (h.marks hk).1
    have hb := (below_plain hn ht hlk (hm k hk)).2 (by rw [e]; exact hc)
    rcases h.whole k t hk ht with q | q | ⟨g, hg, e2⟩
    · rw [q] at hu; cases hu
    · rw [q] at hb; cases hb
    · refine ⟨g, hg, ?_⟩
      have r := raiseN_raised (knotAt s k).mine (omFire (tranAt n.trans t) (knotAt s k).mark) (n.places.toNat + 1)
      have := r.same (fun p => by have := hm g hg p; rw [e2] at this; exact this)
      rw [e2, ← e]
      exact this.trans (omFire_plain hn ht hlk (hm k hk))

theorem run_reachZ {n : NetL} (seq : List Int) : ∀ {a x : List Int}, runL n a seq = (x, 0) → ReachZ n a x := by
  induction seq with
  | nil => intro a x e; obtain ⟨_, rfl⟩ := run_nil.1 e; exact .here
  | cons t ts ih =>
    intro a x e
    obtain ⟨z, h1, h2⟩ := run_cons.1 e
    obtain ⟨j, rfl, hj, _, hc, _, rfl⟩ := fire_ok h1
    exact (ReachZ.here.step ⟨hj, (coversL_iff _ _).1 hc, rfl⟩).trans (ih h2)

theorem fire_code {n : NetL} {x : List Int} (hf : fitsL n x = true) {t : Nat} (ht : t < n.trans.length) (hc : ∀ p, nth (tranAt n.trans t).pre p ≤ nth x p) : (fireL n x t).2 ≠ 3 := by
  unfold fireL
  rw [hf, decide_eq_true (show (0 : Int) ≤ t by omega), decide_eq_true (show (t : Int) < n.trans.length by omega), Int.toNat_natCast, (coversL_iff _ _).2 hc]
  simp only [Bool.and_true, if_true]
  split <;> simp

/-- What is come to is among all marks. -/
theorem Whole.has {n : NetL} {m x : List Int} {s : SpaceL} (h : Whole n m s) (hr : ReachZ n m x) : ∃ g, g < s.marks.length ∧ markAt s.marks g = x := by
  induction hr using ReachZ.ind with
  | here => exact ⟨0, h.here⟩
  | @step x y t _ hs ih =>
    obtain ⟨f, hf, rfl⟩ := ih
    obtain ⟨ht, hc, rfl⟩ := hs
    have hfit : fitsL n (markAt s.marks f) = true := by obtain ⟨_, _, hF, _⟩ := h; exact hF.fits _ (markAt_mem hf)
    rcases h.fire hf t with q | ⟨j, g, e, _, hg, e2⟩
    · exact absurd q (fire_code hfit ht hc)
    · obtain ⟨j', e3, _, _, _, _, e4⟩ := fire_ok e2
      have : j' = t := by omega
      subst this
      exact ⟨g, hg, e4⟩
theorem Whole.fits {n : NetL} {m : List Int} {s : SpaceL} (h : Whole n m s) {g : Nat} (hg : g < s.marks.length) : fitsL n (markAt s.marks g) = true := by
  obtain ⟨_, _, hF, _⟩ := h; exact hF.fits _ (markAt_mem hg)

/-- What was found is come to. -/
theorem Found.reachZ {n : NetL} {m : List Int} {most k t : Nat} {s : SpaceL} (h : Found n m most k t s) : ∀ g, g < s.marks.length → ReachZ n m (markAt s.marks g) := by
  intro g
  induction g using Nat.strongRecOn with
  | ind g ih =>
    intro hg
    by_cases e : g = 0
    · subst e; rw [h.first]; exact .here
    · obtain ⟨a, ha, hlt⟩ := h.par g (by omega) hg
      obtain ⟨h1, h2⟩ := firstTo_mem ha
      obtain ⟨q1, q2, q3, q4, q5⟩ := h.sound a h1
      obtain ⟨j, e3, hj, _, hc, _, e4⟩ := fire_ok q5
      rw [h2] at e4
      exact (ih a.frm hlt q1).step ⟨hj, (coversL_iff _ _).1 hc, e4⟩

/-- What has nowhere Many is bounded: or there are more tokens than marks may have. -/
theorem TreeOk.full {n : NetL} {m : List Int} {s : List KnotX} (h : TreeOk n m s) (hm : ∀ i, i < s.length → ∀ p, nth (knotAt s i).mark p ≠ -1) (hg : (graphL n m 300).2 ≠ 0) : ∃ k p, k < s.length ∧ 1000000 < nth (knotAt s k).mark p := by
  obtain ⟨hn, hl, _⟩ := fits_net h.fits
  have hno : graphTo n m 300 300 = none := by
    unfold graphL at hg
    rw [graphOk_300 h.fits] at hg
    simp only [if_true] at hg
    cases e : graphTo n m 300 300 with
    | none => rfl
    | some sp => exact absurd (show _ from hg) (by rw [show (300 : Int).toNat = 300 from rfl, e]; simp)
  obtain ⟨f, j, sp, hj, hF, hf, ht⟩ := graph_broke (by omega) h.fits 300 hno
  have hfit := hF.fits _ (markAt_mem hf)
  have hz := hF.reachZ f hf
  unfold tryT at ht
  split at ht
  · cases ht
  · rename_i h3
    have hcv : coversL (markAt sp.marks f) (tranAt n.trans j).pre = true := by
      cases hc : coversL (markAt sp.marks f) (tranAt n.trans j).pre
      · refine absurd ?_ h3
        unfold fireL
        rw [hfit, Int.toNat_natCast, hc]; simp
      · rfl
    have hst : StepZ n (markAt sp.marks f) j (addL (subL (markAt sp.marks f) (tranAt n.trans j).pre) (tranAt n.trans j).post) := ⟨hj, (coversL_iff _ _).1 hcv, rfl⟩
    cases hr : rightL (addL (subL (markAt sp.marks f) (tranAt n.trans j).pre) (tranAt n.trans j).post)
    · obtain ⟨k, hk, e⟩ := h.all hm (hz.step hst)
      have hnr : ¬ ∀ p, 0 ≤ nth (knotAt s k).mark p ∧ nth (knotAt s k).mark p ≤ 1000000 := by rw [← rightL_iff, e, hr]; simp
      rw [Classical.not_forall] at hnr
      obtain ⟨p, hp⟩ := hnr
      have := hst.nonneg hn p
      rw [← e] at this
      exact ⟨k, p, hk, by omega⟩
    · have e1 := fire_mk hj hfit hcv hr
      rw [e1] at ht
      simp only [BEq.rfl, if_true] at ht
      split at ht
      · cases ht
      · rename_i hfn
        split at ht
        · rename_i hlen
          exfalso
          have hx := findM_none hfn
          have hnd : (sp.marks ++ [addL (subL (markAt sp.marks f) (tranAt n.trans j).pre) (tranAt n.trans j).post]).Nodup := by
            rw [List.nodup_append]
            exact ⟨hF.nodup, by simp, fun a ha b hb e => by rw [List.mem_singleton] at hb; subst hb; subst e; exact hx ha⟩
          have := nodup_sub (l2 := s.map KnotX.mark) hnd (fun x hx => by
            have hxz : ReachZ n m x := by
              rcases List.mem_append.1 hx with q | q
              · obtain ⟨i, hi, rfl⟩ := List.getElem_of_mem q
                have := hF.reachZ i hi
                rw [markAt, List.getD_eq_getElem?_getD, List.getElem?_eq_getElem hi] at this
                exact this
              · rw [List.mem_singleton] at q; subst q; exact hz.step hst
            obtain ⟨k, hk, e⟩ := h.all hm hxz
            rw [← e, knotAt_get hk]
            exact List.mem_map.2 ⟨s[k], List.getElem_mem hk, rfl⟩)
          simp at this
          have := h.room
          omega
        · cases ht

theorem TreeOk.same {n : NetL} {m : List Int} {s : List KnotX} {sp : SpaceL} (h : TreeOk n m s) (hm : ∀ i, i < s.length → ∀ p, nth (knotAt s i).mark p ≠ -1) (hg : graphL n m 300 = (sp, 0)) :
    (∀ g, g < sp.marks.length → ∃ k, k < s.length ∧ (knotAt s k).mark = markAt sp.marks g) ∧ ∀ k, k < s.length → ∃ g, g < sp.marks.length ∧ markAt sp.marks g = (knotAt s k).mark := by
  have hw := graphL_whole hg
  refine ⟨fun g hlt => ?_, fun k hk => hw.has (h.exact (Nat.le_refl _) hm k hk).1⟩
  obtain ⟨_, _, hF, _⟩ := hw
  exact h.all hm (hF.reachZ g hlt)

/-- Where there are Many there is no end. -/
theorem TreeOk.many {n : NetL} {m : List Int} {s : List KnotX} (h : TreeOk n m s) (hm : ∃ i p, i < s.length ∧ nth (knotAt s i).mark p = -1) : (graphL n m 300).2 = 4 := by
  obtain ⟨hn, hl, hr⟩ := fits_net h.fits
  have main : ∀ sp, graphL n m 300 ≠ (sp, 0) := by
    intro sp hg
    have hw := graphL_whole hg
    -- the first knot that has Many
    have hex : ∃ i, i < s.length ∧ (∃ p, nth (knotAt s i).mark p = -1) ∧ ∀ i', i' < i → ∀ p, nth (knotAt s i').mark p ≠ -1 := by
      obtain ⟨i, p, hi, hp⟩ := hm
      clear hg hw
      induction i using Nat.strongRecOn generalizing p with
      | ind i ih =>
        by_cases hall : ∀ i', i' < i → ∀ p, nth (knotAt s i').mark p ≠ -1
        · exact ⟨i, hi, ⟨p, hp⟩, hall⟩
        · rw [Classical.not_forall] at hall
          obtain ⟨i', hall⟩ := hall
          rw [Classical.not_imp] at hall
          obtain ⟨hi', hall⟩ := hall
          rw [Classical.not_forall] at hall
          obtain ⟨p', hp'⟩ := hall
          exact ih i' hi' p' (by omega) (Classical.not_not.1 hp')
    obtain ⟨i, hi, ⟨p0, hp0⟩, hfirst⟩ := hex
    have hi0 : 0 < i := by
      rcases Nat.eq_zero_or_pos i with e | e
      · subst e
        rw [h.first] at hp0
        have := (rightL_iff m).1 hr p0
        have hp0 : nth m p0 = -1 := hp0
        omega
      · exact e
    obtain ⟨u, t, hu, ht, hb, e1⟩ := h.child i hi0 hi
    have hmu := hfirst u hu
    have hlu := (h.marks (j := u) (by omega)).1
    have hx := omFire_plain hn ht hlu hmu
    have hst : StepZ n (knotAt s u).mark t (omFire (tranAt n.trans t) (knotAt s u).mark) := ⟨ht, (below_plain hn ht hlu hmu).1 hb, hx⟩
    obtain ⟨z1, z2⟩ := h.exact (Nat.le_of_lt hi) hfirst u hu
    -- somebody below it, with less somewhere
    have hy : ∃ y ∈ (knotAt s u).mine, belowL y (omFire (tranAt n.trans t) (knotAt s u).mark) = true ∧ ∃ p, p < (omFire (tranAt n.trans t) (knotAt s u).mark).length ∧ moreL (nth (omFire (tranAt n.trans t) (knotAt s u).mark) p) (nth y p) = true := by
      refine Classical.byContradiction fun hno => ?_
      have := raise_still (mine := (knotAt s u).mine) (x := omFire (tranAt n.trans t) (knotAt s u).mark) (fun y hy hyb p hp => by
        cases hmo : moreL (nth (omFire (tranAt n.trans t) (knotAt s u).mark) p) (nth y p)
        · rfl
        · exact absurd ⟨y, hy, hyb, p, hp, hmo⟩ hno) (n.places.toNat + 1)
      rw [e1] at hp0
      have hp0 : nth (raiseN (knotAt s u).mine (omFire (tranAt n.trans t) (knotAt s u).mark) (n.places.toNat + 1)) p0 = -1 := hp0
      rw [this] at hp0
      have := hst.nonneg hn p0
      omega
    generalize omFire (tranAt n.trans t) (knotAt s u).mark = x at *
    obtain ⟨y, hym, hyb, p, hp, hmore⟩ := hy
    have hyz : ReachZ n m y ∧ ReachZ n y x := by
      rcases List.mem_append.1 (show y ∈ (knotAt s u).line ++ [(knotAt s u).mark] from hym) with q | q
      · exact ⟨(z2 y q).1, (z2 y q).2.step hst⟩
      · rw [List.mem_singleton] at q; subst q; exact ⟨z1, ReachZ.here.step hst⟩
    have hyl := hyz.1.length hn hl
    have hxl := hyz.2.length hn hyl
    have hx0 := fun q => hst.nonneg hn q
    have hle : ∀ q, nth y q ≤ nth x q := by
      intro q
      by_cases hq : q < x.length
      · have := (belowL_iff _ _).1 hyb q hq
        rw [moreL_no] at this
        have := hx0 q
        omega
      · rw [nth_past y q (by omega), nth_past x q (by omega)]; omega
    have hlt : nth y p < nth x p := by rw [moreL_yes] at hmore; have := hx0 p; omega
    -- again and again
    have hrep : ∀ c : Nat, ∃ z, ReachZ n m z ∧ (z.length : Int) = n.places ∧ (∀ q, nth y q ≤ nth z q) ∧ nth y p + c ≤ nth z p := by
      intro c
      induction c with
      | zero => exact ⟨y, hyz.1, hyl, fun q => Int.le_refl _, by simp⟩
      | succ c ih =>
        obtain ⟨z, hz, hzl, hz1, hz2⟩ := ih
        have ed : addL y (subL z y) = z := eq_of_at (by rw [add_length, sub_length]; omega) fun q => by rw [add_at, sub_at]; omega
        have hm2 := hyz.2.more hn hyl (d := subL z y) (by rw [sub_length]; omega) (fun q => by rw [sub_at]; have := hz1 q; omega)
        rw [ed] at hm2
        refine ⟨_, hz.trans hm2, by rw [add_length, sub_length]; omega, fun q => ?_, ?_⟩
        · rw [add_at, sub_at]; have := hz1 q; have := hle q; omega
        · rw [add_at, sub_at]; push_cast; omega
    obtain ⟨z, hz, _, _, hz2⟩ := hrep 2000002
    obtain ⟨g, hg1, rfl⟩ := hw.has hz
    have := (fits_net (hw.fits hg1)).2.2
    have := (rightL_iff _).1 this p
    obtain ⟨g2, hg2, e2⟩ := hw.has hyz.1
    have hy2 := (fits_net (hw.fits hg2)).2.2
    rw [e2] at hy2
    have := (rightL_iff _).1 hy2 p
    omega
  have hco : graphOk n m 300 = true := graphOk_300 h.fits
  unfold graphL at main ⊢
  rw [hco] at main ⊢
  simp only [if_true] at main ⊢
  split at main
  · rename_i sp e; exact absurd rfl (main sp)
  · rfl

/-- What is no more than another one, which is no more than a third. -/
theorem moreL_trans {a b c : Int} (h1 : moreL a b = false) (h2 : moreL b c = false) : moreL a c = false := by
  rw [moreL_no] at *; omega
theorem topL_ge (p : Nat) (l : List KnotL) : ∀ x, moreL x (topL p l x) = false ∧ ∀ k ∈ l, moreL (nth k.mark p) (topL p l x) = false := by
  induction l with
  | nil => exact fun x => ⟨by rw [moreL_no]; show x = -1 ∨ x ≠ -1 ∧ x ≤ x; omega, fun k hk => by simp at hk⟩
  | cons k l ih =>
    intro x
    have e : topL p (k :: l) x = topL p l (if moreL (nth k.mark p) x then nth k.mark p else x) := rfl
    rw [e]
    obtain ⟨q1, q2⟩ := ih (if moreL (nth k.mark p) x then nth k.mark p else x)
    cases hk : moreL (nth k.mark p) x
    · rw [hk] at q1 q2
      simp only [Bool.false_eq_true, if_false] at q1 q2 ⊢
      exact ⟨q1, fun k' hk' => by
        rcases List.mem_cons.1 hk' with rfl | h'
        · exact moreL_trans hk q1
        · exact q2 k' h'⟩
    · rw [hk] at q1 q2
      simp only [if_true] at q1 q2 ⊢
      refine ⟨moreL_trans ?_ q1, fun k' hk' => ?_⟩
      · rw [moreL_yes] at hk; rw [moreL_no]; omega
      · rcases List.mem_cons.1 hk' with rfl | h'
        · exact q1
        · exact q2 k' h'

/-- A limit is one. -/
theorem limit_run {n : NetL} {m x : List Int} {p most k : Int} {seq : List Int} (h : limitL n m p most = (k, 0)) (hr : runL n m seq = (x, 0)) : k = -1 ∨ (0 ≤ p ∧ p < x.length ∧ nth x p.toNat ≤ k) := by
  unfold limitL at h
  split at h
  · rename_i h0
    split at h
    · rename_i hp
      simp only [Bool.and_eq_true, decide_eq_true_eq] at hp
      simp only [Prod.mk.injEq, and_true] at h
      obtain ⟨s, el, hT⟩ := treeL_ok (n := n) (m := m) (most := most) (l := (treeL n m most).1) (Prod.ext rfl (by simpa using h0))
      obtain ⟨j, hj, hc⟩ := hT.covers hr
      have hl := (fits_net (run_fits seq hr).2).2.1
      have := (topL_ge p.toNat (treeL n m most).1 0).2 (knotAt s j).knot (by rw [el, knotAt_get hj]; exact List.mem_map.2 ⟨s[j], List.getElem_mem hj, rfl⟩)
      rw [h, moreL_no] at this
      rcases this with q | ⟨q1, q2⟩
      · exact .inl q
      · right
        refine ⟨hp.1, by omega, ?_⟩
        have q1 : nth (knotAt s j).mark p.toNat ≠ -1 := q1
        have q2 : nth (knotAt s j).mark p.toNat ≤ k := q2
        rcases hc.2 p.toNat (by omega) with q3 | q3
        · exact absurd q3 q1
        · omega
    · simp at h
  · rename_i h0
    simp only [Prod.mk.injEq] at h
    rw [h.2] at h0
    simp at h0
theorem limit_err {n : NetL} {m : List Int} {p most : Int} (h : (limitL n m p most).2 ≠ 0) : (limitL n m p most).1 = 0 := by
  unfold limitL at h ⊢
  split
  · rename_i h0
    split
    · rename_i hp; rw [if_pos h0, if_pos hp] at h; simp at h
    · rfl
  · rfl

end Go.Proofs.YteoofibhpifmlaaDoor
