import Derived.Test.YtlejaeecfeiajaaMarkAll
import Derived.Test.YtlejaeecfeiajaaNetAll
import Derived.Test.YtlejaeecfeiajaaNetBoth
/- Plain facts on marks as lists: sums, differences, covering. -/
namespace Go.Proofs.Ytlejaeecfeiajaa
set_option linter.unusedVariables false
set_option maxRecDepth 4000

theorem zip_comm (xs ys : List Int) : zipL (fun x1 x2 => x1 + x2) ys xs = zipL (fun x1 x2 => x1 + x2) xs ys := by
  simp only [zipL, Nat.max_comm ys.length xs.length]; congr 1; funext p; omega

theorem plusL_comm (xs ys : List Int) : plusL ys xs = plusL xs ys := by
  unfold plusL; rw [zip_comm, Bool.and_comm]

theorem sum_at (xs ys : List Int) (j : Nat) : nth (zipL (fun x1 x2 => x1 + x2) xs ys) j = nth xs j + nth ys j := zipL_at _ rfl _ _ _
theorem less_at (xs ys : List Int) (j : Nat) : nth (zipL (fun x1 x2 => x1 - x2) xs ys) j = nth xs j - nth ys j := zipL_at _ rfl _ _ _

/-- What an answer of Plus can be. -/
theorem plusL_cases (xs ys : List Int) : (plusL xs ys = (zipL (fun x1 x2 => x1 + x2) xs ys, 0) ∧ rightL xs = true ∧ rightL ys = true ∧ rightL (zipL (fun x1 x2 => x1 + x2) xs ys) = true) ∨
    (∃ c, plusL xs ys = ([], c) ∧ c ≠ 0) := by
  cases hx : rightL xs
  · exact .inr ⟨2, plusL_range1 hx, by decide⟩
  cases hy : rightL ys
  · exact .inr ⟨2, plusL_range2 hy, by decide⟩
  cases hz : rightL (zipL (fun x1 x2 => x1 + x2) xs ys)
  · exact .inr ⟨4, plusL_full hx hy hz, by decide⟩
  · exact .inl ⟨plusL_ok hx hy hz, rfl, rfl, rfl⟩

theorem covers_self (xs : List Int) : coversL xs xs = true := (coversL_iff _ _).2 fun j => Int.le_refl _
theorem covers_sum {xs ys : List Int} (hy : rightL ys = true) : coversL (zipL (fun x1 x2 => x1 + x2) xs ys) xs = true :=
  (coversL_iff _ _).2 fun j => by have := (rightL_iff _).1 hy j; rw [sum_at]; omega
theorem covers_sum2 {xs ys : List Int} (hx : rightL xs = true) : coversL (zipL (fun x1 x2 => x1 + x2) xs ys) ys = true :=
  (coversL_iff _ _).2 fun j => by have := (rightL_iff _).1 hx j; rw [sum_at]; omega

theorem sameL_iff (xs ys : List Int) : (coversL xs ys && coversL ys xs) = true ↔ ∀ j, nth xs j = nth ys j := by
  rw [Bool.and_eq_true, coversL_iff, coversL_iff]
  exact ⟨fun ⟨h, k⟩ j => by have := h j; have := k j; omega, fun h => ⟨fun j => by rw [h j]; omega, fun j => by rw [h j]; omega⟩⟩

/-- What was added is taken away again. -/
theorem minus_sum {xs ys : List Int} (hx : rightL xs = true) (hy : rightL ys = true) (hz : rightL (zipL (fun x1 x2 => x1 + x2) xs ys) = true) :
    ∃ zz, minusL (zipL (fun x1 x2 => x1 + x2) xs ys) ys = (zz, 0) ∧ (coversL zz xs && coversL xs zz) = true :=
  ⟨_, minusL_ok hz hy (covers_sum2 hx), (sameL_iff _ _).2 fun j => by rw [less_at, sum_at]; omega⟩

/-- In whatever order. -/
theorem plus_assoc {xs ys cs : List Int} (hx : rightL xs = true) (hy : rightL ys = true) (h : (plusL (zipL (fun x1 x2 => x1 + x2) xs ys) cs).2 = 0) :
    (plusL ys cs).2 = 0 ∧ (plusL xs (plusL ys cs).1).2 = 0 ∧
      (coversL (plusL (zipL (fun x1 x2 => x1 + x2) xs ys) cs).1 (plusL xs (plusL ys cs).1).1 && coversL (plusL xs (plusL ys cs).1).1 (plusL (zipL (fun x1 x2 => x1 + x2) xs ys) cs).1) = true := by
  rcases plusL_cases (zipL (fun x1 x2 => x1 + x2) xs ys) cs with ⟨e, _, hc, hr⟩ | ⟨c, e, hc⟩
  · have hr' := (rightL_iff _).1 hr
    have hx' := (rightL_iff _).1 hx
    have hy' := (rightL_iff _).1 hy
    have hc' := (rightL_iff _).1 hc
    have h1 : rightL (zipL (fun x1 x2 => x1 + x2) ys cs) = true := (rightL_iff _).2 fun j => by
      have := hr' j; have := hx' j; have := hy' j; have := hc' j
      simp only [sum_at] at *; omega
    have e1 := plusL_ok hy hc h1
    have h2 : rightL (zipL (fun x1 x2 => x1 + x2) xs (zipL (fun x1 x2 => x1 + x2) ys cs)) = true := (rightL_iff _).2 fun j => by
      have := hr' j
      simp only [sum_at] at *; omega
    have e2 := plusL_ok hx h1 h2
    refine ⟨by rw [e1], by rw [e1]; exact congrArg Prod.snd e2, ?_⟩
    rw [e, e1]
    show (coversL _ (plusL xs (zipL (fun x1 x2 => x1 + x2) ys cs)).1 && coversL (plusL xs (zipL (fun x1 x2 => x1 + x2) ys cs)).1 _) = true
    rw [e2]
    exact (sameL_iff _ _).2 fun j => by rw [sum_at, sum_at, sum_at, sum_at]; omega
  · rw [e] at h; exact absurd h hc

/-- What was taken away is added again. -/
theorem plus_less {xs ys : List Int} (hx : rightL xs = true) (hy : rightL ys = true) (hc : coversL xs ys = true) :
    ∃ zz, plusL (zipL (fun x1 x2 => x1 - x2) xs ys) ys = (zz, 0) ∧ (coversL zz xs && coversL xs zz) = true := by
  have h1 : rightL (zipL (fun x1 x2 => x1 - x2) xs ys) = true := by rw [right_minus hx hy]; exact hc
  have h2 : rightL (zipL (fun x1 x2 => x1 + x2) (zipL (fun x1 x2 => x1 - x2) xs ys) ys) = true := (rightL_iff _).2 fun j => by
    have := (rightL_iff _).1 hx j
    rw [sum_at, less_at]; omega
  exact ⟨_, plusL_ok h1 hy h2, (sameL_iff _ _).2 fun j => by rw [sum_at, less_at]; omega⟩

theorem covers_trans {xs ys cs : List Int} (h : coversL xs ys = true) (k : coversL ys cs = true) : coversL xs cs = true :=
  (coversL_iff _ _).2 fun j => Int.le_trans ((coversL_iff _ _).1 k j) ((coversL_iff _ _).1 h j)

end Go.Proofs.Ytlejaeecfeiajaa

/- Plain facts on nets that fire: more tokens, two that change places, back again, one run behind another one. -/
namespace Go.Proofs.Ytlejaeecfeiajaa
set_option linter.unusedVariables false
set_option maxRecDepth 4000

/-- What firing asks, and what it comes to. -/
def Fires (n : NetL) (m : List Int) (t : Int) (m' : List Int) : Prop := fireL n m t = (m', 0)

theorem add_at (xs ys : List Int) (j : Nat) : nth (addL xs ys) j = nth xs j + nth ys j := sum_at xs ys j
theorem sub_at (xs ys : List Int) (j : Nat) : nth (subL xs ys) j = nth xs j - nth ys j := less_at xs ys j
theorem add_length (xs ys : List Int) : (addL xs ys).length = max xs.length ys.length := zipL_length _ _ _
theorem sub_length (xs ys : List Int) : (subL xs ys).length = max xs.length ys.length := zipL_length _ _ _

theorem fire_ok {n : NetL} {m m' : List Int} {t : Int} (h : fireL n m t = (m', 0)) :
    ∃ k : Nat, t = k ∧ k < n.trans.length ∧ fitsL n m = true ∧ coversL m (tranAt n.trans k).pre = true ∧ rightL m' = true ∧ m' = addL (subL m (tranAt n.trans k).pre) (tranAt n.trans k).post := by
  unfold fireL at h
  cases hf : fitsL n m
  · simp [hf] at h
  · simp only [hf, if_true] at h
    cases hc : (decide (0 ≤ t) && decide (t < n.trans.length) && coversL m (tranAt n.trans t.toNat).pre)
    · simp [hc] at h
    · simp only [hc, if_true] at h
      simp only [Bool.and_eq_true, decide_eq_true_eq] at hc
      obtain ⟨⟨h0, h1⟩, h2⟩ := hc
      obtain ⟨k, rfl⟩ := Int.eq_ofNat_of_zero_le h0
      rw [Int.toNat_natCast] at h h2
      cases hr : rightL (addL (subL m (tranAt n.trans k).pre) (tranAt n.trans k).post)
      · simp [hr] at h
      · simp only [hr, if_true, Prod.mk.injEq, and_true] at h
        subst h
        exact ⟨k, rfl, by omega, rfl, h2, hr, rfl⟩

theorem fire_mk {n : NetL} {m : List Int} {k : Nat} (hk : k < n.trans.length) (hf : fitsL n m = true) (hc : coversL m (tranAt n.trans k).pre = true)
    (hr : rightL (addL (subL m (tranAt n.trans k).pre) (tranAt n.trans k).post) = true) : fireL n m k = (addL (subL m (tranAt n.trans k).pre) (tranAt n.trans k).post, 0) := by
  unfold fireL
  rw [hf, decide_eq_true (show (0 : Int) ≤ k by omega), decide_eq_true (show (k : Int) < n.trans.length by omega), Int.toNat_natCast, hc, hr]
  rfl

theorem fits_mk {n : NetL} {m : List Int} (hn : netOk n = true) (hl : (m.length : Int) = n.places) (hr : rightL m = true) : fitsL n m = true := by
  simp [fitsL, hn, hl, hr]

theorem tran_length {n : NetL} (hn : netOk n = true) {k : Nat} (hk : k < n.trans.length) :
    ((tranAt n.trans k).pre.length : Int) = n.places ∧ ((tranAt n.trans k).post.length : Int) = n.places := by
  have h := net_tran hn hk
  simp only [tranOk, tranHead, Bool.and_eq_true, beq_iff_eq] at h
  exact ⟨h.1.1.2, h.1.2⟩

/-- What comes of a firing is a mark of the net. -/
theorem fire_fits {n : NetL} {m m' : List Int} {t : Int} (h : fireL n m t = (m', 0)) : fitsL n m' = true := by
  obtain ⟨k, rfl, hk, hf, hc, hr, rfl⟩ := fire_ok h
  obtain ⟨hn, hl, _⟩ := fits_net hf
  obtain ⟨l1, l2⟩ := tran_length hn hk
  exact fits_mk hn (by rw [add_length, sub_length]; omega) hr

theorem fire_err {n : NetL} {m : List Int} {t : Int} (h : (fireL n m t).2 ≠ 0) : (fireL n m t).1 = [] := by
  unfold fireL at h ⊢
  split at h
  · split at h
    · split at h
      · exact absurd rfl h
      · rename_i h1 h2 h3; simp [h1, h2, h3]
    · rename_i h1 h2; simp [h1, h2]
  · rename_i h1; simp [h1]

theorem run_err {n : NetL} (seq : List Int) : ∀ {m : List Int}, (runL n m seq).2 ≠ 0 → (runL n m seq).1 = [] := by
  induction seq with
  | nil =>
    intro m h
    unfold runL at h ⊢
    split at h
    · exact absurd rfl h
    · rename_i h1; simp [h1]
  | cons t ts ih =>
    intro m h
    unfold runL at h ⊢
    cases hf : fitsL n m
    · simp
    · simp only [hf, if_true] at h ⊢
      cases hq : ((fireL n m t).2 == 0)
      · simp
      · simp only [hq, if_true] at h ⊢
        exact ih h

/-- A run that can be done, step by step. -/
theorem run_cons {n : NetL} {m m' : List Int} {t : Int} {ts : List Int} : runL n m (t :: ts) = (m', 0) ↔ ∃ x, fireL n m t = (x, 0) ∧ runL n x ts = (m', 0) := by
  constructor
  · intro h
    unfold runL at h
    cases hf : fitsL n m
    · simp [hf] at h
    · simp only [hf, if_true] at h
      cases hq : ((fireL n m t).2 == 0)
      · simp only [hq] at h
        have : (fireL n m t).2 = 0 := by simpa using congrArg Prod.snd h
        simp [this] at hq
      · simp only [hq, if_true] at h
        exact ⟨(fireL n m t).1, Prod.ext rfl (by simpa using hq), h⟩
  · rintro ⟨x, h1, h2⟩
    obtain ⟨_, _, _, hf, _⟩ := fire_ok h1
    unfold runL
    simp [hf, h1, h2]

theorem run_nil {n : NetL} {m m' : List Int} : runL n m [] = (m', 0) ↔ fitsL n m = true ∧ m' = m := by
  unfold runL
  cases hf : fitsL n m
  · simp
  · simp [eq_comm]

theorem run_fits {n : NetL} (seq : List Int) : ∀ {m m' : List Int}, runL n m seq = (m', 0) → fitsL n m = true ∧ fitsL n m' = true := by
  induction seq with
  | nil => intro m m' h; obtain ⟨h1, rfl⟩ := run_nil.1 h; exact ⟨h1, h1⟩
  | cons t ts ih =>
    intro m m' h
    obtain ⟨x, h1, h2⟩ := run_cons.1 h
    obtain ⟨_, _, _, hf, _⟩ := fire_ok h1
    exact ⟨hf, (ih h2).2⟩

theorem eq_of_at {xs ys : List Int} (hl : xs.length = ys.length) (h : ∀ j, nth xs j = nth ys j) : xs = ys := eq_of_nth xs ys hl fun j _ => h j

/-! With more. -/

theorem post_le {n : NetL} (hn : netOk n = true) {k : Nat} (hk : k < n.trans.length) (j : Nat) :
    0 ≤ nth (tranAt n.trans k).pre j ∧ nth (tranAt n.trans k).pre j ≤ 9 ∧ 0 ≤ nth (tranAt n.trans k).post j ∧ nth (tranAt n.trans k).post j ≤ 9 := by
  have h := net_tran hn hk
  simp only [tranOk, Bool.and_eq_true, List.all_append] at h
  have one : ∀ xs : List Int, xs.all weightOk = true → 0 ≤ nth xs j ∧ nth xs j ≤ 9 := by
    intro xs hx
    by_cases hj : j < xs.length
    · have := List.all_eq_true.1 hx _ (List.getElem_mem hj)
      simp only [weightOk, Bool.and_eq_true, decide_eq_true_eq] at this
      simp only [nth, List.getD, List.getElem?_eq_getElem hj, Option.getD_some]
      omega
    · rw [nth_past xs j (by omega)]; omega
  have h1 := one _ h.2.1
  have h2 := one _ h.2.2
  omega

theorem fire_more {n : NetL} {m m' d : List Int} {t : Int} (h : fireL n m t = (m', 0)) (hl : d.length = m.length) (h0 : ∀ j, 0 ≤ nth d j) (hb : ∀ j, nth m j + nth d j + 9 ≤ 1000000) :
    fireL n (addL m d) t = (addL m' d, 0) ∧ (∀ j, nth m' j ≤ nth m j + 9) ∧ m'.length = m.length := by
  obtain ⟨k, rfl, hk, hf, hc, hr, rfl⟩ := fire_ok h
  obtain ⟨hn, hlen, hm⟩ := fits_net hf
  obtain ⟨l1, l2⟩ := tran_length hn hk
  rw [rightL_iff] at hm hr
  rw [coversL_iff] at hc
  have hp := post_le hn hk
  have hlen2 : ∀ xs ys : List Int, (addL xs ys).length = max xs.length ys.length := add_length
  have hf' : fitsL n (addL m d) = true := fits_mk hn (by rw [add_length]; omega) ((rightL_iff _).2 fun j => by
    have := hm j; have := h0 j; have := hb j; rw [add_at]; omega)
  have hc' : coversL (addL m d) (tranAt n.trans k).pre = true := (coversL_iff _ _).2 fun j => by
    have := hc j; have := h0 j; rw [add_at]; omega
  have e : addL (subL (addL m d) (tranAt n.trans k).pre) (tranAt n.trans k).post = addL (addL (subL m (tranAt n.trans k).pre) (tranAt n.trans k).post) d := by
    refine eq_of_at (by simp only [add_length, sub_length]; omega) fun j => ?_
    simp only [add_at, sub_at]; omega
  refine ⟨?_, fun j => by have := hp j; have := hc j; rw [add_at, sub_at]; omega, by rw [add_length, sub_length]; omega⟩
  rw [fire_mk hk hf' hc' (by
    rw [e, rightL_iff]
    intro j
    have := hr j; have := h0 j; have := hb j; have := hp j
    simp only [add_at, sub_at] at *
    omega), e]

theorem run_more {n : NetL} (seq : List Int) : ∀ {m m' d : List Int}, runL n m seq = (m', 0) → d.length = m.length → (∀ j, 0 ≤ nth d j) → (∀ j, nth m j + nth d j + 9 * seq.length ≤ 1000000) →
    runL n (addL m d) seq = (addL m' d, 0) ∧ (∀ j, nth m' j ≤ nth m j + 9 * seq.length) ∧ m'.length = m.length := by
  induction seq with
  | nil =>
    intro m m' d h hl h0 hb
    obtain ⟨hf, rfl⟩ := run_nil.1 h
    obtain ⟨hn, hlen, hm⟩ := fits_net hf
    refine ⟨run_nil.2 ⟨fits_mk hn (by rw [add_length]; omega) ((rightL_iff _).2 fun j => ?_), rfl⟩, fun j => by simp, rfl⟩
    have := (rightL_iff _).1 hm j; have := h0 j; have := hb j
    rw [add_at]
    simp only [List.length_nil] at *
    omega
  | cons t ts ih =>
    intro m m' d h hl h0 hb
    obtain ⟨x, h1, h2⟩ := run_cons.1 h
    simp only [List.length_cons] at hb ⊢
    obtain ⟨g1, g2, g3⟩ := fire_more h1 hl h0 (fun j => by have := hb j; omega)
    obtain ⟨k1, k2, k3⟩ := ih h2 (by omega) h0 (fun j => by have := hb j; have := g2 j; omega)
    exact ⟨run_cons.2 ⟨_, g1, k1⟩, fun j => by have := k2 j; have := g2 j; omega, by omega⟩

/-! Two that change places. -/

theorem fire_two {n : NetL} {m : List Int} {t u : Nat} (hn : netOk n = true) (ht : t < n.trans.length) (hu : u < n.trans.length) (hl : (m.length : Int) = n.places) (hm : rightL m = true) (hb : ∀ j, nth m j ≤ 900000)
    (hc : ∀ j, nth (tranAt n.trans t).pre j + nth (tranAt n.trans u).pre j ≤ nth m j) :
    ∃ z, runL n m [(t : Int), (u : Int)] = (z, 0) ∧ z.length = m.length ∧ ∀ j, nth z j = nth m j - nth (tranAt n.trans t).pre j + nth (tranAt n.trans t).post j - nth (tranAt n.trans u).pre j + nth (tranAt n.trans u).post j := by
  have pt := post_le hn ht
  have pu := post_le hn hu
  obtain ⟨l1, l2⟩ := tran_length hn ht
  obtain ⟨l3, l4⟩ := tran_length hn hu
  have hm' := (rightL_iff _).1 hm
  have f1 := fire_mk (m := m) ht (fits_mk hn hl hm) ((coversL_iff _ _).2 fun j => by have := hc j; have := pu j; omega) ((rightL_iff _).2 fun j => by
    have := hc j; have := pt j; have := pu j; have := hb j; have := hm' j; rw [add_at, sub_at]; omega)
  have ff := fire_fits f1
  have f2 := fire_mk hu ff ((coversL_iff _ _).2 fun j => by have := hc j; have := pt j; rw [add_at, sub_at]; omega) ((rightL_iff _).2 fun j => by
    have := hc j; have := pt j; have := pu j; have := hb j; have := hm' j; simp only [add_at, sub_at]; omega)
  refine ⟨_, run_cons.2 ⟨_, f1, run_cons.2 ⟨_, f2, run_nil.2 ⟨fire_fits f2, rfl⟩⟩⟩, by simp only [add_length, sub_length]; omega, fun j => by simp only [add_at, sub_at]⟩

theorem fire_swap {n : NetL} {m : List Int} {t u : Nat} (hn : netOk n = true) (ht : t < n.trans.length) (hu : u < n.trans.length) (hl : (m.length : Int) = n.places) (hm : rightL m = true) (hb : ∀ j, nth m j ≤ 900000)
    (hc : ∀ j, nth (tranAt n.trans t).pre j + nth (tranAt n.trans u).pre j ≤ nth m j) :
    ∃ z, runL n m [(t : Int), (u : Int)] = (z, 0) ∧ runL n m [(u : Int), (t : Int)] = (z, 0) := by
  obtain ⟨z, h1, h2, h3⟩ := fire_two hn ht hu hl hm hb hc
  obtain ⟨y, k1, k2, k3⟩ := fire_two hn hu ht hl hm hb (fun j => by have := hc j; omega)
  have e : y = z := eq_of_at (by omega) fun j => by rw [h3 j, k3 j]; omega
  exact ⟨z, h1, e ▸ k1⟩

/-! Back again. -/

theorem runL_cons (n : NetL) (m : List Int) (t : Int) (ts : List Int) : runL n m (t :: ts) = if fitsL n m then (if (fireL n m t).2 == 0 then runL n (fireL n m t).1 ts else ([], (fireL n m t).2)) else ([], 2) := rfl

theorem run_append {n : NetL} (a : List Int) : ∀ {m : List Int} (b : List Int), runL n m (a ++ b) = if (runL n m a).2 == 0 then runL n (runL n m a).1 b else ([], (runL n m a).2) := by
  induction a with
  | nil =>
    intro m b
    cases hf : fitsL n m
    · have e : runL n m [] = ([], 2) := by simp [runL, hf]
      rw [e, List.nil_append]
      cases b <;> simp [runL, hf]
    · have e : runL n m [] = (m, 0) := by simp [runL, hf]
      rw [e]; rfl
  | cons t ts ih =>
    intro m b
    rw [List.cons_append, runL_cons, runL_cons]
    cases hf : fitsL n m
    · simp
    · simp only [if_true]
      cases hq : ((fireL n m t).2 == 0)
      · simp [hq]
      · simp only [if_true]
        exact ih b

theorem turn_turn (t : TranL) : turnT (turnT t) = t := rfl
theorem turn_ok (n : NetL) (h : netOk n = true) : netOk (turnL n) = true := by
  simp only [netOk, headOk, Bool.and_eq_true, decide_eq_true_eq] at h ⊢
  refine ⟨⟨h.1.1, by simp [turnL]; exact h.1.2⟩, ?_⟩
  rw [List.all_eq_true] at h ⊢
  intro t ht
  obtain ⟨s, hs, rfl⟩ := List.mem_map.1 ht
  have := h.2 s hs
  simp only [tranOk, tranHead, turnT, turnL, Bool.and_eq_true, List.all_append] at this ⊢
  exact ⟨⟨⟨this.1.1.1, this.1.2⟩, this.1.1.2⟩, this.2.2, this.2.1⟩

theorem fire_back {n : NetL} {m m' : List Int} {t : Int} (h : fireL n m t = (m', 0)) : fireL (turnL n) m' t = (m, 0) := by
  have hf' := fire_fits h
  obtain ⟨k, rfl, hk, hf, hc, hr, rfl⟩ := fire_ok h
  obtain ⟨hn, hlen, hm⟩ := fits_net hf
  obtain ⟨l1, l2⟩ := tran_length hn hk
  have hc' := (coversL_iff _ _).1 hc
  have ea : tranAt (turnL n).trans k = turnT (tranAt n.trans k) := turn_at _ _ hk
  have e : addL (subL (addL (subL m (tranAt n.trans k).pre) (tranAt n.trans k).post) (tranAt n.trans k).post) (tranAt n.trans k).pre = m := by
    refine eq_of_at (by simp only [add_length, sub_length]; omega) fun j => ?_
    simp only [add_at, sub_at]; omega
  have hft : fitsL (turnL n) (addL (subL m (tranAt n.trans k).pre) (tranAt n.trans k).post) = true := by
    obtain ⟨_, q1, q2⟩ := fits_net hf'
    exact fits_mk (turn_ok n hn) q1 q2
  have := fire_mk (n := turnL n) (k := k) (by simpa [turnL] using hk) hft (by
    rw [ea, coversL_iff]; intro j; have := hc' j; simp only [turnT, add_at, sub_at]; omega) (by
    rw [ea]; show rightL (addL (subL _ (tranAt n.trans k).post) (tranAt n.trans k).pre) = true; rw [e]; exact hm)
  rw [this, ea]
  show (addL (subL _ (tranAt n.trans k).post) (tranAt n.trans k).pre, (0 : Int)) = _
  rw [e]

theorem run_back {n : NetL} (seq : List Int) : ∀ {m x : List Int}, runL n m seq = (x, 0) → runL (turnL n) x seq.reverse = (m, 0) := by
  induction seq with
  | nil =>
    intro m x h
    obtain ⟨hf, rfl⟩ := run_nil.1 h
    obtain ⟨hn, q1, q2⟩ := fits_net hf
    exact run_nil.2 ⟨fits_mk (turn_ok n hn) q1 q2, rfl⟩
  | cons t ts ih =>
    intro m x h
    obtain ⟨y, h1, h2⟩ := run_cons.1 h
    have h3 := ih h2
    rw [List.reverse_cons, run_append, h3]
    have h4 := fire_back h1
    exact run_cons.2 ⟨_, h4, run_nil.2 ⟨fire_fits h4, rfl⟩⟩

/-! Who can, and who fires. -/

theorem can_mem (n : NetL) (m : List Int) (k : Nat) (t : Int) : t ∈ canTo n m k ↔ ∃ j : Nat, t = j ∧ j < k ∧ coversL m (tranAt n.trans j).pre = true := by
  simp only [canTo, List.mem_map, List.mem_filter, List.mem_range]
  exact ⟨fun ⟨j, ⟨h1, h2⟩, h3⟩ => ⟨j, h3.symm, h1, h2⟩, fun ⟨j, h3, h1, h2⟩ => ⟨j, ⟨h1, h2⟩, h3.symm⟩⟩

theorem can_fire {n : NetL} {m : List Int} (hf : fitsL n m = true) (t : Int) : (canTo n m n.trans.length).contains t = ((fireL n m t).2 != 3) := by
  rw [Bool.eq_iff_iff, List.contains_iff_mem, can_mem, bne_iff_ne]
  constructor
  · rintro ⟨j, rfl, hj, hc⟩
    unfold fireL
    rw [hf, decide_eq_true (show (0 : Int) ≤ j by omega), decide_eq_true (show (j : Int) < n.trans.length by omega), Int.toNat_natCast, hc]
    simp only [Bool.and_self, if_true]
    split <;> simp
  · intro h
    unfold fireL at h
    rw [hf] at h
    cases hc : (decide (0 ≤ t) && decide (t < n.trans.length) && coversL m (tranAt n.trans t.toNat).pre)
    · simp [hc] at h
    · simp only [Bool.and_eq_true, decide_eq_true_eq] at hc
      obtain ⟨⟨h0, h1⟩, h2⟩ := hc
      obtain ⟨k, rfl⟩ := Int.eq_ofNat_of_zero_le h0
      rw [Int.toNat_natCast] at h2
      exact ⟨k, rfl, by omega, h2⟩

theorem not_fits {n : NetL} {m : List Int} (hf : fitsL n m = false) (t : Int) : fireL n m t = ([], 2) := by simp [fireL, hf]

end Go.Proofs.Ytlejaeecfeiajaa

/- Plain words for all marks that a net comes to. -/
namespace Go.Proofs.Ytlejaeecfeiajaa
set_option linter.unusedVariables false
set_option maxRecDepth 4000

/-- An arc: from, by, to. -/
structure ArcL where
  frm : Nat
  tran : Nat
  dst : Nat

/-- All marks, and how. -/
structure SpaceL where
  marks : List (List Int)
  arcs : List ArcL

/-- Where a mark is found, if it is. -/
def findM (ms : List (List Int)) (x : List Int) : Option Nat := ms.findIdx? (· == x)
def markAt (ms : List (List Int)) (k : Nat) : List Int := ms.getD k []

theorem findM_some {ms : List (List Int)} {x : List Int} {k : Nat} (h : findM ms x = some k) : k < ms.length ∧ markAt ms k = x := by
  obtain ⟨hk, h1, _⟩ := List.findIdx?_eq_some_iff_getElem.1 h
  refine ⟨hk, ?_⟩
  rw [markAt, List.getD_eq_getElem?_getD, List.getElem?_eq_getElem hk]
  simpa using h1
theorem findM_none {ms : List (List Int)} {x : List Int} (h : findM ms x = none) : x ∉ ms := by
  intro hx
  have := List.findIdx?_eq_none_iff.1 h x hx
  simp at this
theorem markAt_mem {ms : List (List Int)} {k : Nat} (h : k < ms.length) : markAt ms k ∈ ms := by
  rw [markAt, List.getD_eq_getElem?_getD, List.getElem?_eq_getElem h]; exact List.getElem_mem h
theorem markAt_append {ms ns : List (List Int)} {k : Nat} (h : k < ms.length) : markAt (ms ++ ns) k = markAt ms k := by
  rw [markAt, markAt, List.getD_eq_getElem?_getD, List.getD_eq_getElem?_getD, List.getElem?_append_left h]
theorem markAt_last (ms : List (List Int)) (x : List Int) : markAt (ms ++ [x]) ms.length = x := by
  rw [markAt, List.getD_eq_getElem?_getD, List.getElem?_append_right (Nat.le_refl _)]; simp

/-- A transition is tried at a mark. -/
def tryT (n : NetL) (most : Nat) (k : Nat) (s : SpaceL) (t : Nat) : Option SpaceL :=
  if (fireL n (markAt s.marks k) t).2 == 3 then some s
  else if (fireL n (markAt s.marks k) t).2 == 0 then
    match findM s.marks (fireL n (markAt s.marks k) t).1 with
    | some g => some ⟨s.marks, s.arcs ++ [⟨k, t, g⟩]⟩
    | none => if s.marks.length = most then none else some ⟨s.marks ++ [(fireL n (markAt s.marks k) t).1], s.arcs ++ [⟨k, t, s.marks.length⟩]⟩
  else none

/-- The first t transitions are tried at mark k. -/
def rowTo (n : NetL) (most k : Nat) (s : SpaceL) : Nat → Option SpaceL
  | 0 => some s
  | t + 1 => (rowTo n most k s t).bind fun s' => tryT n most k s' t

/-- The first k marks are done. -/
def graphTo (n : NetL) (m : List Int) (most : Nat) : Nat → Option SpaceL
  | 0 => some ⟨[m], []⟩
  | k + 1 => (graphTo n m most k).bind fun s => if k < s.marks.length then rowTo n most k s n.trans.length else some s

def graphOk (n : NetL) (m : List Int) (most : Int) : Bool := decide (1 ≤ most) && decide (most ≤ 300) && fitsL n m
def graphL (n : NetL) (m : List Int) (most : Int) : SpaceL × Int :=
  if graphOk n m most then
    match graphTo n m most.toNat most.toNat with
    | some s => (s, 0)
    | none => (⟨[], []⟩, 4)
  else (⟨[], []⟩, 2)

/-- The first arc to a mark. -/
def firstTo (l : List ArcL) (g : Nat) : Option ArcL := l.find? fun a => a.dst == g

/-- What holds while marks are found: k marks are done, and t transitions of mark k. -/
structure Found (n : NetL) (m : List Int) (most k t : Nat) (s : SpaceL) : Prop where
  most_le : s.marks.length ≤ most
  pos : 0 < s.marks.length
  first : markAt s.marks 0 = m
  nodup : s.marks.Nodup
  fits : ∀ x ∈ s.marks, fitsL n x = true
  sound : ∀ a ∈ s.arcs, a.frm < s.marks.length ∧ a.dst < s.marks.length ∧ a.tran < n.trans.length ∧ a.frm ≤ k ∧ fireL n (markAt s.marks a.frm) a.tran = (markAt s.marks a.dst, 0)
  whole : ∀ f j, f < s.marks.length → j < n.trans.length → (f < k ∨ f = k ∧ j < t) → (fireL n (markAt s.marks f) j).2 = 3 ∨ ∃ g, (⟨f, j, g⟩ : ArcL) ∈ s.arcs
  par : ∀ g, 0 < g → g < s.marks.length → ∃ a, firstTo s.arcs g = some a ∧ a.frm < g
  mono : ∀ g h a b, 0 < g → g ≤ h → firstTo s.arcs g = some a → firstTo s.arcs h = some b → h < s.marks.length → a.frm ≤ b.frm
  early : ∀ a b, a ∈ s.arcs → firstTo s.arcs a.dst = some b → b.frm ≤ a.frm

theorem firstTo_append {l : List ArcL} {g : Nat} {a b : ArcL} (h : firstTo l g = some a) : firstTo (l ++ [b]) g = some a := by
  unfold firstTo at *; rw [List.find?_append, h]; rfl
theorem firstTo_new {l : List ArcL} {g : Nat} {b : ArcL} (h : firstTo l g = none) (hb : b.dst = g) : firstTo (l ++ [b]) g = some b := by
  unfold firstTo at *; rw [List.find?_append, h]; simp [hb]
theorem firstTo_other {l : List ArcL} {g : Nat} {b : ArcL} (hb : b.dst ≠ g) : firstTo (l ++ [b]) g = firstTo l g := by
  unfold firstTo; rw [List.find?_append]
  cases l.find? (fun a => a.dst == g) with
  | some a => rfl
  | none => simp [hb]
theorem firstTo_mem {l : List ArcL} {g : Nat} {a : ArcL} (h : firstTo l g = some a) : a ∈ l ∧ a.dst = g := by
  unfold firstTo at h
  exact ⟨List.mem_of_find?_eq_some h, by simpa using List.find?_some h⟩
theorem firstTo_none {l : List ArcL} {g : Nat} (h : ∀ a ∈ l, a.dst ≠ g) : firstTo l g = none := by
  unfold firstTo; rw [List.find?_eq_none]; intro a ha; simpa using h a ha

theorem Found.start {n : NetL} {m : List Int} {most : Nat} (hm : 1 ≤ most) (hf : fitsL n m = true) : Found n m most 0 0 ⟨[m], []⟩ where
  most_le := hm
  pos := Nat.one_pos
  first := rfl
  nodup := by simp
  fits := by simp [hf]
  sound := by simp
  whole := by intro f j h1 h2 h3; omega
  par := by intro g h1 h2; simp at h2; omega
  mono := by intro g h a b h1 h2 h3; simp [firstTo] at h3
  early := by simp

/-- One more arc, to a mark that was there. -/
theorem Found.arc {n : NetL} {m : List Int} {most k t g : Nat} {s : SpaceL} (h : Found n m most k t s) (hk : k < s.marks.length) (ht : t < n.trans.length) (hg : g < s.marks.length)
    (hf : fireL n (markAt s.marks k) t = (markAt s.marks g, 0)) : Found n m most k (t + 1) ⟨s.marks, s.arcs ++ [⟨k, t, g⟩]⟩ where
  most_le := h.most_le
  pos := h.pos
  first := h.first
  nodup := h.nodup
  fits := h.fits
  sound := by
    intro a ha
    rcases List.mem_append.1 ha with ha | ha
    · exact h.sound a ha
    · rw [List.mem_singleton] at ha; subst ha; exact ⟨hk, hg, ht, Nat.le_refl _, hf⟩
  whole := by
    intro f j h1 h2 h3
    by_cases e : f = k ∧ j = t
    · obtain ⟨rfl, rfl⟩ := e; exact .inr ⟨g, List.mem_append_right _ (List.mem_singleton.2 rfl)⟩
    · rcases h.whole f j h1 h2 (by omega) with h4 | ⟨g', h4⟩
      · exact .inl h4
      · exact .inr ⟨g', List.mem_append_left _ h4⟩
  par := by
    intro g' h1 h2
    obtain ⟨a, h3, h4⟩ := h.par g' h1 h2
    exact ⟨a, firstTo_append h3, h4⟩
  mono := by
    intro g1 g2 a b h1 h2 h3 h4 h5
    obtain ⟨a', h6, _⟩ := h.par g1 h1 (Nat.lt_of_le_of_lt h2 h5)
    obtain ⟨b', h7, _⟩ := h.par g2 (by omega) h5
    rw [firstTo_append h6] at h3
    rw [firstTo_append h7] at h4
    injection h3 with h3
    injection h4 with h4
    subst h3 h4
    exact h.mono g1 g2 _ _ h1 h2 h6 h7 h5
  early := by
    intro a b ha hb
    rcases List.mem_append.1 ha with ha | ha
    · cases he : firstTo s.arcs a.dst with
      | some c => rw [firstTo_append he] at hb; injection hb with hb; subst hb; exact h.early a _ ha he
      | none =>
        unfold firstTo at he
        rw [List.find?_eq_none] at he
        exact absurd (he a ha) (by simp)
    · rw [List.mem_singleton] at ha
      subst ha
      rcases List.mem_append.1 (firstTo_mem hb).1 with hb' | hb'
      · exact (h.sound b hb').2.2.2.1
      · rw [List.mem_singleton] at hb'; subst hb'; exact Nat.le_refl _

/-- One more arc, to a new mark. -/
theorem Found.new {n : NetL} {m x : List Int} {most k t : Nat} {s : SpaceL} (h : Found n m most k t s) (hk : k < s.marks.length) (ht : t < n.trans.length) (hx : x ∉ s.marks) (hlt : s.marks.length < most)
    (hf : fireL n (markAt s.marks k) t = (x, 0)) : Found n m most k (t + 1) ⟨s.marks ++ [x], s.arcs ++ [⟨k, t, s.marks.length⟩]⟩ where
  most_le := by simp; omega
  pos := by simp
  first := by show markAt (s.marks ++ [x]) 0 = m; rw [markAt_append h.pos]; exact h.first
  nodup := by
    show (s.marks ++ [x]).Nodup
    rw [List.nodup_append]
    exact ⟨h.nodup, by simp, fun a ha b hb e => by rw [List.mem_singleton] at hb; subst hb; subst e; exact hx ha⟩
  fits := by
    intro y hy
    rcases List.mem_append.1 hy with hy | hy
    · exact h.fits y hy
    · rw [List.mem_singleton] at hy; subst hy; exact fire_fits hf
  sound := by
    intro a ha
    have hl : (s.marks ++ [x]).length = s.marks.length + 1 := by simp
    rcases List.mem_append.1 ha with ha | ha
    · obtain ⟨h1, h2, h3, h4, h5⟩ := h.sound a ha
      show a.frm < (s.marks ++ [x]).length ∧ a.dst < (s.marks ++ [x]).length ∧ a.tran < n.trans.length ∧ a.frm ≤ k ∧ fireL n (markAt (s.marks ++ [x]) a.frm) a.tran = (markAt (s.marks ++ [x]) a.dst, 0)
      rw [markAt_append h1, markAt_append h2, hl]
      exact ⟨by omega, by omega, h3, h4, h5⟩
    · rw [List.mem_singleton] at ha
      subst ha
      show k < (s.marks ++ [x]).length ∧ s.marks.length < (s.marks ++ [x]).length ∧ t < n.trans.length ∧ k ≤ k ∧ fireL n (markAt (s.marks ++ [x]) k) t = (markAt (s.marks ++ [x]) s.marks.length, 0)
      rw [markAt_append hk, markAt_last, hl]
      exact ⟨by omega, by omega, ht, Nat.le_refl _, hf⟩
  whole := by
    intro f j h1 h2 h3
    show (fireL n (markAt (s.marks ++ [x]) f) j).2 = 3 ∨ ∃ g, _ ∈ s.arcs ++ _
    have hfl : f < s.marks.length := by omega
    rw [markAt_append hfl]
    by_cases e : f = k ∧ j = t
    · obtain ⟨rfl, rfl⟩ := e; exact .inr ⟨s.marks.length, List.mem_append_right _ (List.mem_singleton.2 rfl)⟩
    · rcases h.whole f j hfl h2 (by omega) with h4 | ⟨g', h4⟩
      · exact .inl h4
      · exact .inr ⟨g', List.mem_append_left _ h4⟩
  par := by
    intro g h1 h2
    have hl : (s.marks ++ [x]).length = s.marks.length + 1 := by simp
    by_cases hg : g < s.marks.length
    · obtain ⟨a, h3, h4⟩ := h.par g h1 hg
      exact ⟨a, firstTo_append h3, h4⟩
    · have e : g = s.marks.length := by simp only [hl] at h2; omega
      exact ⟨⟨k, t, s.marks.length⟩, firstTo_new (firstTo_none fun a ha => by have := (h.sound a ha).2.1; omega) e.symm, by show k < g; omega⟩
  mono := by
    intro g1 g2 a b h1 h2 h3 h4 h5
    have hl : (s.marks ++ [x]).length = s.marks.length + 1 := by simp
    have hno : firstTo s.arcs s.marks.length = none := firstTo_none fun a ha => by have := (h.sound a ha).2.1; omega
    by_cases hg2 : g2 < s.marks.length
    · obtain ⟨a', h6, _⟩ := h.par g1 h1 (Nat.lt_of_le_of_lt h2 hg2)
      obtain ⟨b', h7, _⟩ := h.par g2 (by omega) hg2
      rw [firstTo_append h6] at h3
      rw [firstTo_append h7] at h4
      injection h3 with h3
      injection h4 with h4
      subst h3 h4
      exact h.mono g1 g2 _ _ h1 h2 h6 h7 hg2
    · have e : g2 = s.marks.length := by simp only [hl] at h5; omega
      subst e
      rw [firstTo_new hno rfl] at h4
      injection h4 with h4
      subst h4
      rcases List.mem_append.1 (firstTo_mem h3).1 with hb' | hb'
      · exact (h.sound a hb').2.2.2.1
      · rw [List.mem_singleton] at hb'; subst hb'; exact Nat.le_refl _
  early := by
    intro a b ha hb
    rcases List.mem_append.1 ha with ha | ha
    · cases he : firstTo s.arcs a.dst with
      | some c => rw [firstTo_append he] at hb; injection hb with hb; subst hb; exact h.early a _ ha he
      | none =>
        unfold firstTo at he
        rw [List.find?_eq_none] at he
        exact absurd (he a ha) (by simp)
    · rw [List.mem_singleton] at ha
      subst ha
      rcases List.mem_append.1 (firstTo_mem hb).1 with hb' | hb'
      · exact (h.sound b hb').2.2.2.1
      · rw [List.mem_singleton] at hb'; subst hb'; exact Nat.le_refl _

end Go.Proofs.Ytlejaeecfeiajaa

/- Plain facts on all marks that a net comes to. -/
namespace Go.Proofs.Ytlejaeecfeiajaa
set_option linter.unusedVariables false
set_option maxRecDepth 4000

/-- What is found stays: more marks may come behind. -/
def Longer (s s' : SpaceL) : Prop := ∃ ms l, s'.marks = s.marks ++ ms ∧ s'.arcs = s.arcs ++ l
theorem Longer.refl (s : SpaceL) : Longer s s := ⟨[], [], by simp, by simp⟩
theorem Longer.trans {a b c : SpaceL} (h : Longer a b) (k : Longer b c) : Longer a c := by
  obtain ⟨m1, l1, e1, e2⟩ := h
  obtain ⟨m2, l2, e3, e4⟩ := k
  exact ⟨m1 ++ m2, l1 ++ l2, by rw [e3, e1, List.append_assoc], by rw [e4, e2, List.append_assoc]⟩
theorem Longer.le {a b : SpaceL} (h : Longer a b) : a.marks.length ≤ b.marks.length := by
  obtain ⟨m1, l1, e1, e2⟩ := h; rw [e1]; simp

theorem Found.skip {n : NetL} {m : List Int} {most k t : Nat} {s : SpaceL} (h : Found n m most k t s) (hf : (fireL n (markAt s.marks k) t).2 = 3) : Found n m most k (t + 1) s := by
  have hw : ∀ f j, f < s.marks.length → j < n.trans.length → (f < k ∨ f = k ∧ j < t + 1) → (fireL n (markAt s.marks f) j).2 = 3 ∨ ∃ g, (⟨f, j, g⟩ : ArcL) ∈ s.arcs := by
    intro f j h1 h2 h3
    by_cases e : f = k ∧ j = t
    · obtain ⟨rfl, rfl⟩ := e; exact .inl hf
    · exact h.whole f j h1 h2 (by omega)
  exact { h with whole := hw }

theorem tryT_found {n : NetL} {m : List Int} {most k t : Nat} {s s' : SpaceL} (h : Found n m most k t s) (hk : k < s.marks.length) (ht : t < n.trans.length) (e : tryT n most k s t = some s') :
    Found n m most k (t + 1) s' ∧ Longer s s' := by
  unfold tryT at e
  by_cases h3 : (fireL n (markAt s.marks k) t).2 = 3
  · rw [if_pos (by simp [h3])] at e
    injection e with e
    subst e
    exact ⟨h.skip h3, Longer.refl _⟩
  · rw [if_neg (by simp [h3])] at e
    by_cases h0 : (fireL n (markAt s.marks k) t).2 = 0
    · rw [if_pos (by simp [h0])] at e
      cases hf : findM s.marks (fireL n (markAt s.marks k) t).1 with
      | some g =>
        rw [hf] at e
        injection e with e
        subst e
        obtain ⟨hg, he⟩ := findM_some hf
        exact ⟨h.arc hk ht hg (by rw [he, ← h0]), [], [_], by simp, rfl⟩
      | none =>
        rw [hf] at e
        simp only at e
        by_cases hm : s.marks.length = most
        · rw [if_pos hm] at e; cases e
        · rw [if_neg hm] at e
          injection e with e
          subst e
          exact ⟨h.new hk ht (findM_none hf) (by have := h.most_le; omega) (by rw [← h0]), [_], [_], rfl, rfl⟩
    · rw [if_neg (by simp [h0])] at e; cases e

theorem rowTo_found {n : NetL} {m : List Int} {most k : Nat} {s : SpaceL} (h : Found n m most k 0 s) (hk : k < s.marks.length) : ∀ (t : Nat) {s' : SpaceL}, t ≤ n.trans.length → rowTo n most k s t = some s' →
    Found n m most k t s' ∧ Longer s s' := by
  intro t
  induction t with
  | zero => intro s' _ e; injection e with e; subst e; exact ⟨h, Longer.refl _⟩
  | succ t ih =>
    intro s' ht e
    simp only [rowTo, Option.bind_eq_some_iff] at e
    obtain ⟨s1, e1, e2⟩ := e
    obtain ⟨h1, l1⟩ := ih (by omega) e1
    obtain ⟨h2, l2⟩ := tryT_found h1 (Nat.lt_of_lt_of_le hk l1.le) (by omega) e2
    exact ⟨h2, l1.trans l2⟩

theorem Found.next {n : NetL} {m : List Int} {most k : Nat} {s : SpaceL} (h : Found n m most k n.trans.length s) : Found n m most (k + 1) 0 s :=
  { h with
    sound := fun a ha => by obtain ⟨h1, h2, h3, h4, h5⟩ := h.sound a ha; exact ⟨h1, h2, h3, by omega, h5⟩
    whole := fun f j h1 h2 h3 => h.whole f j h1 h2 (by omega) }
theorem Found.past {n : NetL} {m : List Int} {most k : Nat} {s : SpaceL} (h : Found n m most k 0 s) (hk : s.marks.length ≤ k) : Found n m most (k + 1) 0 s :=
  { h with
    sound := fun a ha => by obtain ⟨h1, h2, h3, h4, h5⟩ := h.sound a ha; exact ⟨h1, h2, h3, by omega, h5⟩
    whole := fun f j h1 h2 h3 => h.whole f j h1 h2 (by omega) }

theorem graphTo_found {n : NetL} {m : List Int} {most : Nat} (hm : 1 ≤ most) (hf : fitsL n m = true) : ∀ (k : Nat) {s : SpaceL}, graphTo n m most k = some s → Found n m most k 0 s := by
  intro k
  induction k with
  | zero => intro s e; injection e with e; subst e; exact Found.start hm hf
  | succ k ih =>
    intro s e
    simp only [graphTo, Option.bind_eq_some_iff] at e
    obtain ⟨s1, e1, e2⟩ := e
    have h1 := ih e1
    by_cases hk : k < s1.marks.length
    · rw [if_pos hk] at e2
      exact ((rowTo_found h1 hk _ (Nat.le_refl _) e2).1).next
    · rw [if_neg hk] at e2
      injection e2 with e2
      subst e2
      exact h1.past (by omega)

/-- All marks are found, and all firings. -/
def Whole (n : NetL) (m : List Int) (s : SpaceL) : Prop := ∃ most k, Found n m most k 0 s ∧ s.marks.length ≤ k

theorem graphL_ok {n : NetL} {m : List Int} {most : Int} {s : SpaceL} (h : graphL n m most = (s, 0)) : 1 ≤ most ∧ most ≤ 300 ∧ fitsL n m = true ∧ graphTo n m most.toNat most.toNat = some s ∧ Found n m most.toNat most.toNat 0 s := by
  unfold graphL at h
  cases ho : graphOk n m most
  · rw [ho] at h; simp at h
  · rw [ho] at h
    simp only [if_true] at h
    simp only [graphOk, Bool.and_eq_true, decide_eq_true_eq] at ho
    obtain ⟨⟨h1, h2⟩, h3⟩ := ho
    cases hg : graphTo n m most.toNat most.toNat with
    | none => rw [hg] at h; simp at h
    | some s' =>
      rw [hg] at h
      simp only [Prod.mk.injEq, and_true] at h
      subst h
      exact ⟨h1, h2, h3, rfl, graphTo_found (by omega) h3 _ hg⟩
theorem graphL_whole {n : NetL} {m : List Int} {most : Int} {s : SpaceL} (h : graphL n m most = (s, 0)) : Whole n m s := by
  obtain ⟨_, _, _, _, hF⟩ := graphL_ok h
  exact ⟨_, _, hF, hF.most_le⟩
theorem graphL_err {n : NetL} {m : List Int} {most : Int} (h : (graphL n m most).2 ≠ 0) : (graphL n m most).1 = ⟨[], []⟩ := by
  unfold graphL at *
  split
  · split
    · simp_all
    · rfl
  · rfl

/-- A firing from a mark that is there comes to one that is there; or it cannot be done. -/
theorem Whole.fire {n : NetL} {m : List Int} {s : SpaceL} (h : Whole n m s) {f : Nat} (hf : f < s.marks.length) (t : Int) :
    (fireL n (markAt s.marks f) t).2 = 3 ∨ ∃ (j : Nat) (g : Nat), t = j ∧ (⟨f, j, g⟩ : ArcL) ∈ s.arcs ∧ g < s.marks.length ∧ fireL n (markAt s.marks f) t = (markAt s.marks g, 0) := by
  obtain ⟨most, k, hF, hk⟩ := h
  by_cases ht : 0 ≤ t ∧ t < n.trans.length
  · obtain ⟨j, rfl⟩ := Int.eq_ofNat_of_zero_le ht.1
    rcases hF.whole f j hf (by omega) (by omega) with h3 | ⟨g, hg⟩
    · exact .inl h3
    · obtain ⟨_, q2, _, _, q5⟩ := hF.sound _ hg
      exact .inr ⟨j, g, rfl, hg, q2, q5⟩
  · left
    have hfit := hF.fits _ (markAt_mem hf)
    unfold fireL
    rw [hfit]
    have : (decide (0 ≤ t) && decide (t < n.trans.length)) = false := by
      rw [Bool.and_eq_false_iff, decide_eq_false_iff_not, decide_eq_false_iff_not]; omega
    rw [this]; simp

/-- Whoever is there goes nowhere else. -/
theorem Whole.run {n : NetL} {m : List Int} {s : SpaceL} (h : Whole n m s) (seq : List Int) : ∀ {f : Nat}, f < s.marks.length →
    (runL n (markAt s.marks f) seq).2 = 3 ∨ ∃ g, g < s.marks.length ∧ runL n (markAt s.marks f) seq = (markAt s.marks g, 0) := by
  induction seq with
  | nil =>
    intro f hf
    obtain ⟨most, k, hF, hk⟩ := h
    exact .inr ⟨f, hf, by rw [runL, hF.fits _ (markAt_mem hf)]; rfl⟩
  | cons t ts ih =>
    intro f hf
    have hfit : fitsL n (markAt s.marks f) = true := by obtain ⟨most, k, hF, hk⟩ := h; exact hF.fits _ (markAt_mem hf)
    rw [runL, hfit]
    rcases h.fire hf t with h3 | ⟨j, g, rfl, _, hg, e⟩
    · left; rw [h3]; simp
    · rw [e]
      simp only [BEq.rfl, if_true]
      exact ih hg
theorem Whole.here {n : NetL} {m : List Int} {s : SpaceL} (h : Whole n m s) : 0 < s.marks.length ∧ markAt s.marks 0 = m := by
  obtain ⟨most, k, hF, hk⟩ := h; exact ⟨hF.pos, hF.first⟩
theorem Whole.nodup {n : NetL} {m : List Int} {s : SpaceL} (h : Whole n m s) : s.marks.Nodup := by
  obtain ⟨most, k, hF, hk⟩ := h; exact hF.nodup
theorem markAt_inj {ms : List (List Int)} (h : ms.Nodup) {i j : Nat} (hi : i < ms.length) (hj : j < ms.length) (e : markAt ms i = markAt ms j) : i = j := by
  rw [markAt, markAt, List.getD_eq_getElem?_getD, List.getD_eq_getElem?_getD, List.getElem?_eq_getElem hi, List.getElem?_eq_getElem hj] at e
  have e' : ms[i] = ms[j] := by simpa using e
  have hp := List.pairwise_iff_getElem.1 h
  rcases Nat.lt_trichotomy i j with q | q | q
  · exact absurd e' (hp i j hi hj q)
  · exact q
  · exact absurd e'.symm (hp j i hj hi q)

/-- How far a mark is from the first one, and how it is come to. -/
def pathTo (l : List ArcL) : Nat → Nat → List Int
  | 0, _ => []
  | fuel + 1, g => if g = 0 then [] else match firstTo l g with
    | some a => pathTo l fuel a.frm ++ [(a.tran : Int)]
    | none => []
def pathL (s : SpaceL) (g : Nat) : List Int := pathTo s.arcs g g

theorem pathTo_enough {n : NetL} {m : List Int} {most k t : Nat} {s : SpaceL} (h : Found n m most k t s) : ∀ (f g : Nat), g ≤ f → g < s.marks.length → pathTo s.arcs f g = pathL s g := by
  intro f
  induction f using Nat.strongRecOn with
  | ind f ih =>
    intro g hgf hg
    unfold pathL
    cases g with
    | zero => cases f <;> rfl
    | succ g =>
      cases f with
      | zero => omega
      | succ f =>
        obtain ⟨a, h1, h2⟩ := h.par (g + 1) (by omega) hg
        simp only [pathTo, h1, Nat.add_eq_zero_iff, Nat.succ_ne_self, and_false, if_false]
        rw [ih f (by omega) a.frm (by omega) (by omega)]
        congr 1
        by_cases e : g = f
        · subst e; exact (ih g (by omega) a.frm (by omega) (by omega)).symm
        · exact (ih g (by omega) a.frm (by omega) (by omega)).symm

theorem pathL_zero (s : SpaceL) : pathL s 0 = [] := rfl
theorem pathL_step {n : NetL} {m : List Int} {most k t : Nat} {s : SpaceL} (h : Found n m most k t s) {g : Nat} (h0 : 0 < g) (hg : g < s.marks.length) {a : ArcL} (ha : firstTo s.arcs g = some a) :
    pathL s g = pathL s a.frm ++ [(a.tran : Int)] := by
  obtain ⟨a', h1, h2⟩ := h.par g h0 hg
  rw [ha] at h1
  injection h1 with h1
  subst h1
  unfold pathL
  cases g with
  | zero => omega
  | succ g =>
    simp only [pathTo, ha, Nat.add_eq_zero_iff, and_false, if_false, Nat.one_ne_zero]
    rw [pathTo_enough h g a.frm (by omega) (by omega)]
    rfl

/-- A path leads where it says. -/
theorem Whole.path {n : NetL} {m : List Int} {s : SpaceL} (h : Whole n m s) : ∀ g, g < s.marks.length → runL n m (pathL s g) = (markAt s.marks g, 0) := by
  have h' := h
  obtain ⟨most, k, hF, hk⟩ := h
  intro g
  induction g using Nat.strongRecOn with
  | ind g ih =>
    intro hg
    by_cases h0 : g = 0
    · subst h0
      rw [pathL_zero, hF.first, runL]
      have := hF.fits _ (markAt_mem hF.pos)
      rw [hF.first] at this
      rw [this]; rfl
    · obtain ⟨a, h1, h2⟩ := hF.par g (by omega) hg
      rw [pathL_step hF (by omega) hg h1, run_append, ih a.frm h2 (by omega)]
      simp only [BEq.rfl, if_true]
      obtain ⟨q1, q2, q3, q4, q5⟩ := hF.sound a (firstTo_mem h1).1
      rw [run_cons]
      refine ⟨_, q5, ?_⟩
      rw [(firstTo_mem h1).2, run_nil]
      exact ⟨hF.fits _ (markAt_mem hg), rfl⟩

theorem depth_mono {n : NetL} {m : List Int} {most k t : Nat} {s : SpaceL} (h : Found n m most k t s) : ∀ j, ∀ i, i ≤ j → j < s.marks.length → (pathL s i).length ≤ (pathL s j).length := by
  intro j
  induction j using Nat.strongRecOn with
  | ind j ih =>
    intro i hij hj
    by_cases h0 : i = 0
    · subst h0; simp [pathL_zero]
    · obtain ⟨a, h1, h2⟩ := h.par i (by omega) (by omega)
      obtain ⟨b, h3, h4⟩ := h.par j (by omega) hj
      rw [pathL_step h (by omega) (by omega) h1, pathL_step h (by omega) hj h3]
      simp only [List.length_append, List.length_singleton]
      have := ih b.frm h4 a.frm (h.mono i j a b (by omega) hij h1 h3 hj) (by omega)
      omega
theorem depth_arc {n : NetL} {m : List Int} {most k t : Nat} {s : SpaceL} (h : Found n m most k t s) {a : ArcL} (ha : a ∈ s.arcs) : (pathL s a.dst).length ≤ (pathL s a.frm).length + 1 := by
  obtain ⟨q1, q2, _, _, _⟩ := h.sound a ha
  by_cases h0 : a.dst = 0
  · rw [h0]; simp [pathL_zero]
  · obtain ⟨b, h1, h2⟩ := h.par a.dst (by omega) q2
    rw [pathL_step h (by omega) q2 h1]
    simp only [List.length_append, List.length_singleton]
    have := depth_mono h a.frm b.frm (h.early a b ha h1) q1
    omega

/-- No run that is shorter leads there. -/
theorem Whole.short {n : NetL} {m : List Int} {s : SpaceL} (h : Whole n m s) (seq : List Int) : ∀ {f g : Nat}, f < s.marks.length → g < s.marks.length → runL n (markAt s.marks f) seq = (markAt s.marks g, 0) →
    (pathL s g).length ≤ (pathL s f).length + seq.length := by
  induction seq with
  | nil =>
    intro f g hf hg e
    obtain ⟨_, e2⟩ := run_nil.1 e
    rw [markAt_inj h.nodup hg hf e2]
    simp
  | cons t ts ih =>
    intro f g hf hg e
    obtain ⟨x, e1, e2⟩ := run_cons.1 e
    rcases h.fire hf t with h3 | ⟨j, q, rfl, ha, hq, e3⟩
    · rw [e1] at h3; cases h3
    · rw [e1] at e3
      injection e3 with e3 _
      subst e3
      have h1 := ih hq hg e2
      obtain ⟨most, k, hF, hk⟩ := h
      have h2 := depth_arc hF ha
      simp only [List.length_cons] at *
      omega

end Go.Proofs.Ytlejaeecfeiajaa

/- Plain facts on all marks that a net comes to: more room. -/
namespace Go.Proofs.Ytlejaeecfeiajaa
set_option linter.unusedVariables false
set_option maxRecDepth 4000

theorem tryT_len {n : NetL} {most k t : Nat} {s s' : SpaceL} (e : tryT n most k s t = some s') : s.marks.length ≤ s'.marks.length := by
  unfold tryT at e
  split at e
  · injection e with e; subst e; exact Nat.le_refl _
  · split at e
    · split at e
      · injection e with e; subst e; exact Nat.le_refl _
      · split at e
        · cases e
        · injection e with e; subst e; simp
    · cases e

theorem try_cut {n : NetL} {most more k t : Nat} {s s' : SpaceL} (hl : s.marks.length ≤ more) (e : tryT n most k s t = some s') : tryT n more k s t = if s'.marks.length ≤ more then some s' else none := by
  unfold tryT at e ⊢
  split at e
  · rename_i h
    rw [if_pos h]
    injection e with e; subst e; rw [if_pos hl]
  · rename_i h
    rw [if_neg h]
    split at e
    · rename_i h2
      rw [if_pos h2]
      split at e
      · rename_i g hg
        injection e with e; subst e; rw [if_pos hl]
      · rename_i hg
        split at e
        · cases e
        · injection e with e
          subst e
          simp only [List.length_append, List.length_singleton]
          by_cases h3 : s.marks.length = more
          · rw [if_pos h3, if_neg (by omega)]
          · rw [if_neg h3, if_pos (by omega)]
    · cases e

theorem rowTo_len {n : NetL} {most k : Nat} {s : SpaceL} : ∀ (t : Nat) {s' : SpaceL}, rowTo n most k s t = some s' → s.marks.length ≤ s'.marks.length := by
  intro t
  induction t with
  | zero => intro s' e; injection e with e; subst e; exact Nat.le_refl _
  | succ t ih =>
    intro s' e
    simp only [rowTo, Option.bind_eq_some_iff] at e
    obtain ⟨s1, e1, e2⟩ := e
    exact Nat.le_trans (ih e1) (tryT_len e2)

theorem row_cut {n : NetL} {most more k : Nat} {s : SpaceL} (hl : s.marks.length ≤ more) : ∀ (t : Nat) {s' : SpaceL}, rowTo n most k s t = some s' → rowTo n more k s t = if s'.marks.length ≤ more then some s' else none := by
  intro t
  induction t with
  | zero => intro s' e; injection e with e; subst e; rw [if_pos hl]; rfl
  | succ t ih =>
    intro s' e
    simp only [rowTo, Option.bind_eq_some_iff] at e
    obtain ⟨s1, e1, e2⟩ := e
    rw [rowTo, ih e1]
    by_cases h1 : s1.marks.length ≤ more
    · rw [if_pos h1]; exact try_cut h1 e2
    · rw [if_neg h1, if_neg (by have := tryT_len e2; omega)]; rfl

theorem graph_cut {n : NetL} {m : List Int} {most more : Nat} (h1 : 1 ≤ more) : ∀ (k : Nat) {s : SpaceL}, graphTo n m most k = some s → graphTo n m more k = if s.marks.length ≤ more then some s else none := by
  intro k
  induction k with
  | zero => intro s e; injection e with e; subst e; rw [if_pos (by simpa using h1)]; rfl
  | succ k ih =>
    intro s e
    simp only [graphTo, Option.bind_eq_some_iff] at e
    obtain ⟨s1, e1, e2⟩ := e
    rw [graphTo, ih e1]
    by_cases hk : k < s1.marks.length
    · rw [if_pos hk] at e2
      by_cases h2 : s1.marks.length ≤ more
      · rw [if_pos h2]
        simp only [Option.bind_some, if_pos hk]
        exact row_cut h2 _ e2
      · rw [if_neg h2, if_neg (by have := rowTo_len _ e2; omega)]; rfl
    · rw [if_neg hk] at e2
      injection e2 with e2
      subst e2
      by_cases h2 : s1.marks.length ≤ more
      · rw [if_pos h2]
        simp only [Option.bind_some, if_neg hk]
      · rw [if_neg h2]; rfl

theorem graph_stable {n : NetL} {m : List Int} {b k : Nat} {s : SpaceL} (e : graphTo n m b k = some s) (hk : s.marks.length ≤ k) : ∀ j, graphTo n m b (k + j) = some s := by
  intro j
  induction j with
  | zero => exact e
  | succ j ih => rw [← Nat.add_assoc, graphTo, ih]; simp only [Option.bind_some]; rw [if_neg (by omega)]
theorem graph_before {n : NetL} {m : List Int} {b : Nat} : ∀ (j k : Nat) {s : SpaceL}, graphTo n m b (k + j) = some s → ∃ s', graphTo n m b k = some s' := by
  intro j
  induction j with
  | zero => intro k s e; exact ⟨s, e⟩
  | succ j ih =>
    intro k s e
    rw [← Nat.add_assoc, graphTo, Option.bind_eq_some_iff] at e
    obtain ⟨s1, e1, _⟩ := e
    exact ih k e1

/-- More room changes nothing, where there was enough; and there is enough just if there is room for all. -/
theorem graph_room {n : NetL} {m : List Int} {most more : Int} {s : SpaceL} (h : graphL n m most = (s, 0)) (h1 : 1 ≤ more) (h2 : more ≤ 300) :
    graphL n m more = if (s.marks.length : Int) ≤ more then (s, 0) else (⟨[], []⟩, 4) := by
  obtain ⟨m1, m2, hf, hg, hF⟩ := graphL_ok h
  have hcut := graph_cut (n := n) (m := m) (more := more.toNat) (by omega) _ hg
  have hle := hF.most_le
  unfold graphL
  have hok : graphOk n m more = true := by simp only [graphOk, Bool.and_eq_true, decide_eq_true_eq]; exact ⟨⟨h1, h2⟩, hf⟩
  rw [hok]
  simp only [if_true]
  have key : graphTo n m more.toNat more.toNat = if s.marks.length ≤ more.toNat then some s else none := by
    rcases Nat.lt_or_ge more.toNat most.toNat with q | q
    · cases hx : graphTo n m more.toNat more.toNat with
      | none =>
        by_cases hl : s.marks.length ≤ more.toNat
        · rw [if_pos hl] at hcut
          have e : most.toNat = more.toNat + (most.toNat - more.toNat) := by omega
          rw [e] at hcut
          obtain ⟨s', hs'⟩ := graph_before _ _ hcut
          rw [hx] at hs'; cases hs'
        · rw [if_neg hl]
      | some s' =>
        have hF' := graphTo_found (most := more.toNat) (by omega) hf _ hx
        have hst := graph_stable hx hF'.most_le (most.toNat - more.toNat)
        rw [show more.toNat + (most.toNat - more.toNat) = most.toNat by omega, hcut] at hst
        by_cases hl : s.marks.length ≤ more.toNat
        · rw [if_pos hl] at hst ⊢; exact hst.symm
        · rw [if_neg hl] at hst; cases hst
    · rw [if_pos (by omega)] at hcut ⊢
      have := graph_stable hcut hle (more.toNat - most.toNat)
      rw [show most.toNat + (more.toNat - most.toNat) = more.toNat by omega] at this
      exact this
  rw [key]
  by_cases hl : s.marks.length ≤ more.toNat
  · rw [if_pos hl, if_pos (by omega)]
  · rw [if_neg hl, if_neg (by omega)]

/-- What Path answers. -/
def reachL (n : NetL) (m goal : List Int) (most : Int) : List Int × Int :=
  if (graphL n m most).2 == 0 then
    match findM (graphL n m most).1.marks goal with
    | some g => (pathL (graphL n m most).1 g, 0)
    | none => ([], 3)
  else ([], (graphL n m most).2)

theorem findM_at {ms : List (List Int)} (h : ms.Nodup) {k : Nat} (hk : k < ms.length) : findM ms (markAt ms k) = some k := by
  cases hf : findM ms (markAt ms k) with
  | none => exact absurd (markAt_mem hk) (findM_none hf)
  | some g =>
    obtain ⟨hg, e⟩ := findM_some hf
    rw [markAt_inj h hg hk e]

/-- Each mark is come to by its path, and by no run that is shorter. -/
theorem reach_true {n : NetL} {m : List Int} {most : Int} {s : SpaceL} (h : graphL n m most = (s, 0)) {k : Nat} (hk : k < s.marks.length) :
    ∃ p, reachL n m (markAt s.marks k) most = (p, 0) ∧ runL n m p = (markAt s.marks k, 0) ∧ ∀ seq, runL n m seq = (markAt s.marks k, 0) → p.length ≤ seq.length := by
  have hW := graphL_whole h
  refine ⟨pathL s k, ?_, hW.path k hk, fun seq hs => ?_⟩
  · unfold reachL
    rw [h]
    simp only [BEq.rfl, if_true]
    rw [findM_at hW.nodup hk]
  · have e := hW.here
    have := hW.short seq (f := 0) (g := k) e.1 hk (by rw [e.2]; exact hs)
    rw [pathL_zero] at this
    simpa using this

end Go.Proofs.Ytlejaeecfeiajaa

/- Where a search breaks off; how many can be different. -/
namespace Go.Proofs.Ytlejaeecfeiajaa
set_option linter.unusedVariables false
set_option maxRecDepth 4000

theorem row_broke {n : NetL} {m : List Int} {most k : Nat} {s : SpaceL} (h : Found n m most k 0 s) (hk : k < s.marks.length) : ∀ (t : Nat), t ≤ n.trans.length → rowTo n most k s t = none →
    ∃ j s', j < n.trans.length ∧ Found n m most k j s' ∧ k < s'.marks.length ∧ tryT n most k s' j = none
  | 0, _, e => by simp [rowTo] at e
  | t + 1, ht, e => by
    rw [rowTo] at e
    cases e1 : rowTo n most k s t with
    | none => exact row_broke h hk t (by omega) e1
    | some s1 =>
      rw [e1] at e
      obtain ⟨g1, l1⟩ := rowTo_found h hk t (by omega) e1
      exact ⟨t, s1, by omega, g1, Nat.lt_of_lt_of_le hk l1.le, e⟩
theorem graph_broke {n : NetL} {m : List Int} {most : Nat} (hm : 1 ≤ most) (hf : fitsL n m = true) : ∀ (k : Nat), graphTo n m most k = none →
    ∃ f j s', j < n.trans.length ∧ Found n m most f j s' ∧ f < s'.marks.length ∧ tryT n most f s' j = none
  | 0, e => by simp [graphTo] at e
  | k + 1, e => by
    rw [graphTo] at e
    cases e1 : graphTo n m most k with
    | none => exact graph_broke hm hf k e1
    | some s1 =>
      rw [e1] at e
      simp only [Option.bind_some] at e
      split at e
      · rename_i hk
        obtain ⟨j, s', q1, q2, q3, q4⟩ := row_broke (graphTo_found hm hf k e1) hk _ (Nat.le_refl _) e
        exact ⟨k, j, s', q1, q2, q3, q4⟩
      · cases e

theorem nodup_sub {l1 : List (List Int)} : ∀ {l2 : List (List Int)}, l1.Nodup → (∀ x ∈ l1, x ∈ l2) → l1.length ≤ l2.length := by
  induction l1 with
  | nil => intro l2 _ _; simp
  | cons a l ih =>
    intro l2 hn hs
    rw [List.nodup_cons] at hn
    have ha := hs a (by simp)
    have := ih (l2 := l2.erase a) hn.2 fun x hx => (List.mem_erase_of_ne (fun (e : x = a) => hn.1 (e ▸ hx))).2 (hs x (by simp [hx]))
    rw [List.length_erase_of_mem ha] at this
    have := List.length_pos_of_mem ha
    simp; omega

theorem graphOk_300 {n : NetL} {m : List Int} (hf : fitsL n m = true) : graphOk n m 300 = true := by simp [graphOk, hf]

end Go.Proofs.Ytlejaeecfeiajaa
