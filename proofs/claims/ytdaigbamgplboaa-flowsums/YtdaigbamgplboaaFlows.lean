/- Plain facts on what transitions do together. -/
import Derived.Test.YtdaigbamgplboaaFlow4
namespace Go.Proofs.Ytdaigbamgplboaa
set_option linter.unusedVariables false

/-- What one does at a place. -/
def deltaT (n : NetL) (k p : Nat) : Int := nth (tranAt n.trans k).post p - nth (tranAt n.trans k).pre p

theorem effTo_delta (n : NetL) (c : List Int) (p k : Nat) : effTo n c p k = sumTo (fun j => nth c j * deltaT n j p) k := by
  unfold effTo deltaT
  exact sumTo_congr fun j _ => by rw [Int.mul_sub]

theorem eff_cons (n : NetL) (t : Nat) (ts : List Int) (p : Nat) (ht : t < n.trans.length) :
    effTo n (countL n ((t : Int) :: ts)) p n.trans.length = deltaT n t p + effTo n (countL n ts) p n.trans.length := by
  rw [effTo_delta, effTo_delta]
  have h : ∀ j, j < n.trans.length → nth (countL n ((t : Int) :: ts)) j * deltaT n j p = nth (countL n ts) j * deltaT n j p + (if j = t then deltaT n t p else 0) := by
    intro j hj
    rw [countL, countL, countTo_nth _ _ _ hj, countTo_nth _ _ _ hj, List.count_cons]
    by_cases e : j = t
    · subst e
      simp only [BEq.rfl, if_true]
      rw [show ((List.count (j : Int) ts + 1 : Nat) : Int) = (List.count (j : Int) ts : Nat) + 1 by omega, Int.add_mul, Int.one_mul]
    · have e' : ((t : Int) == (j : Int)) = false := by simp; omega
      rw [e', if_neg e]
      simp
  rw [sumTo_congr h, sumTo_add, sumTo_single (f := fun j => if j = t then deltaT n t p else 0) (i := t) ht (fun j hj hne => if_neg hne), if_pos rfl]
  omega
theorem eff_nil (n : NetL) (p : Nat) : effTo n (countL n []) p n.trans.length = 0 := by
  rw [effTo_delta]
  exact sumTo_zero fun j hj => by rw [countL, countTo_nth _ _ _ hj]; simp

/-- What a run comes to is what there was, and what they do together. -/
theorem run_effect {n : NetL} (seq : List Int) : ∀ {m x : List Int}, runL n m seq = (x, 0) → ∀ p, nth x p = nth m p + effTo n (countL n seq) p n.trans.length := by
  induction seq with
  | nil =>
    intro m x h p
    obtain ⟨_, rfl⟩ := run_nil.1 h
    rw [eff_nil]; omega
  | cons t ts ih =>
    intro m x h p
    obtain ⟨z, h1, h2⟩ := run_cons.1 h
    obtain ⟨k, rfl, hk, _, _, _, rfl⟩ := fire_ok h1
    rw [ih h2 p, eff_cons n k ts p hk, add_at, sub_at]
    unfold deltaT
    omega

theorem count_within {n : NetL} {seq : List Int} (hs : seq.length ≤ 100000) : withinL (countL n seq) n.trans.length 0 = true := by
  rw [withinL_iff]
  refine ⟨by rw [countL, countTo_length], fun j hj => ?_⟩
  rw [countL, countTo_length] at hj
  rw [countL, countTo_nth _ _ _ hj]
  have := List.count_le_length (a := (j : Int)) (l := seq)
  omega

theorem run_equation {n : NetL} {m x seq : List Int} (h : runL n m seq = (x, 0)) (hs : seq.length ≤ 100000) :
    ∃ d, effectL n (countL n seq) = (d, 0) ∧ d.length = x.length ∧ m.length = x.length ∧ (∀ p, p < x.length → nth x p = nth m p + nth d p) ∧ ∀ p, 0 ≤ nth x p ∧ nth x p ≤ 1000000 := by
  obtain ⟨hf, hf'⟩ := run_fits seq h
  obtain ⟨hn, hl, _⟩ := fits_net hf
  obtain ⟨_, hl', hr'⟩ := fits_net hf'
  have hok : effOk n (countL n seq) = true := by rw [effOk, hn, count_within hs]; rfl
  have hxl : n.places.toNat = x.length := by omega
  refine ⟨effList n (countL n seq) n.places.toNat, by rw [effectL, hok]; rfl, by rw [effList_length]; omega, by omega, fun p hp => ?_, fun p => (rightL_iff _).1 hr' p⟩
  rw [effList_nth _ _ _ _ (by omega)]
  exact run_effect seq h p

theorem kept_at {n : NetL} {y : List Int} (h : keptL n y = true) {k : Nat} (hk : k < n.trans.length) : dotL y (tranAt n.trans k).pre = dotL y (tranAt n.trans k).post := by
  simp only [keptL, Bool.and_eq_true] at h
  have := List.all_eq_true.1 h.2 _ (List.getElem_mem hk)
  rw [beq_iff_eq] at this
  simpa [tranAt, List.getD, List.getElem?_eq_getElem hk] using this

/-- No run changes what marks are worth. -/
theorem run_kept {n : NetL} {y : List Int} (hk : keptL n y = true) (seq : List Int) : ∀ {m x : List Int}, runL n m seq = (x, 0) → dotL y x = dotL y m := by
  induction seq with
  | nil =>
    intro m x h
    obtain ⟨_, rfl⟩ := run_nil.1 h
    rfl
  | cons t ts ih =>
    intro m x h
    obtain ⟨z, h1, h2⟩ := run_cons.1 h
    obtain ⟨k, rfl, hkk, _, _, _, rfl⟩ := fire_ok h1
    rw [ih h2, dotL_add, dotL_sub, kept_at hk hkk]
    omega

theorem run_weigh {n : NetL} {y m x seq : List Int} (hk : keptL n y = true) (h : runL n m seq = (x, 0)) : weighL y x = weighL y m := by
  unfold weighL; rw [run_kept hk seq h]

theorem run_bound {n : NetL} {y m x seq : List Int} (hk : keptL n y = true) (h : runL n m seq = (x, 0)) (hy : ∀ j, 0 ≤ nth y j) {p : Nat} (hp : p < y.length) (hpos : 0 < nth y p) :
    p < x.length ∧ nth x p ≤ weighL y m := by
  have hkk := hk
  simp only [keptL, Bool.and_eq_true] at hkk
  obtain ⟨hf, hf'⟩ := run_fits seq h
  obtain ⟨hn, hl, hr⟩ := fits_net hf
  obtain ⟨_, hl', hr'⟩ := fits_net hf'
  obtain ⟨wl, _⟩ := (withinL_iff _ _ _).1 hkk.1.2
  obtain ⟨p0, p1, _⟩ := netOk_head hn
  have hm := (rightL_iff _).1 hr
  have hx := (rightL_iff _).1 hr'
  have b := dotL_bound (y := y) (a := m) (x := 1000000) (z := 1000000) (by omega) (fun j => by have := within_nth hkk.1.2 (by omega) j; have := hy j; omega) hm
  have e : weighL y m = dotL y m := by unfold weighL; exact wrap_id (by omega) (by omega)
  refine ⟨by omega, ?_⟩
  rw [e, ← run_kept hk seq h, dotL_sum y x y.length (by omega)]
  have h1 := sumTo_one (f := fun j => nth y j * nth x j) (i := p) (k := y.length) (fun j _ => Int.mul_nonneg (hy j) (hx j).1) hp
  have h2 : nth x p ≤ nth y p * nth x p := by
    have := Int.mul_le_mul_of_nonneg_right (show (1 : Int) ≤ nth y p by omega) (hx p).1
    omega
  omega

theorem effTo_add (n : NetL) (a b : List Int) (p k : Nat) : effTo n (addL a b) p k = effTo n a p k + effTo n b p k := by
  rw [effTo_delta, effTo_delta, effTo_delta, ← sumTo_add]
  exact sumTo_congr fun j _ => by rw [add_at, Int.add_mul]
theorem effTo_turn (n : NetL) (a : List Int) (p : Nat) : ∀ k, k ≤ n.trans.length → effTo (turnL n) a p k = - effTo n a p k := by
  intro k hk
  rw [effTo_delta, effTo_delta, ← sumTo_neg]
  refine sumTo_congr fun j hj => ?_
  unfold deltaT
  have e : tranAt (turnL n).trans j = turnT (tranAt n.trans j) := turn_at _ _ (by omega)
  rw [e]
  simp only [turnT]
  rw [← Int.mul_neg]
  congr 1
  omega

theorem effect_ok {n : NetL} {c d : List Int} (h : effectL n c = (d, 0)) : effOk n c = true ∧ d = effList n c n.places.toNat := by
  unfold effectL at h
  cases ho : effOk n c
  · simp [ho] at h
  · simp only [ho, if_true, Prod.mk.injEq, and_true] at h
    exact ⟨rfl, h.symm⟩

/-- Effects add up, and turned round they are the same, below 0. -/
theorem effect_sums {n : NetL} {a b x y : List Int} (h1 : effectL n a = (x, 0)) (h2 : effectL n b = (y, 0)) :
    a.length = b.length ∧ x.length = y.length ∧ (∀ p, -216000000 ≤ nth x p ∧ nth x p ≤ 216000000) ∧ (∀ p, -216000000 ≤ nth y p ∧ nth y p ≤ 216000000) ∧ (∀ j, 0 ≤ nth a j ∧ nth a j ≤ 1000000) ∧ (∀ j, 0 ≤ nth b j ∧ nth b j ≤ 1000000) ∧
      (∃ v, effectL (turnL n) a = (v, 0) ∧ v.length = x.length ∧ ∀ p, p < x.length → nth v p = - nth x p) ∧
      ∀ z, effectL n (addL a b) = (z, 0) → z.length = x.length ∧ ∀ p, p < x.length → nth z p = nth x p + nth y p := by
  obtain ⟨o1, rfl⟩ := effect_ok h1
  obtain ⟨o2, rfl⟩ := effect_ok h2
  have E1 := effOk_of o1
  have E2 := effOk_of o2
  have hb : ∀ {c : List Int}, EffOk n c → ∀ p, -216000000 ≤ nth (effList n c n.places.toNat) p ∧ nth (effList n c n.places.toNat) p ≤ 216000000 := by
    intro c E p
    by_cases hp : p < n.places.toNat
    · rw [effList_nth _ _ _ _ hp]
      have := E.bound p n.trans.length
      have := E.trans
      omega
    · rw [nth_past _ _ (by rw [effList_length]; omega)]; omega
  refine ⟨by rw [E1.len, E2.len], by rw [effList_length, effList_length], hb E1, hb E2, E1.cnt, E2.cnt, ?_, ?_⟩
  · have o3 : effOk (turnL n) a = true := by
      simp only [effOk, Bool.and_eq_true] at o1 ⊢
      refine ⟨turn_ok n o1.1, ?_⟩
      have : (turnL n).trans.length = n.trans.length := by simp [turnL]
      rw [this]; exact o1.2
    refine ⟨effList (turnL n) a n.places.toNat, by rw [effectL, o3]; rfl, by rw [effList_length, effList_length], fun p hp => ?_⟩
    rw [effList_length] at hp
    rw [effList_nth _ _ _ _ hp, effList_nth _ _ _ _ hp]
    have : (turnL n).trans.length = n.trans.length := by simp [turnL]
    rw [this]
    exact effTo_turn n a p _ (Nat.le_refl _)
  · intro z hz
    obtain ⟨_, rfl⟩ := effect_ok hz
    refine ⟨by rw [effList_length, effList_length], fun p hp => ?_⟩
    rw [effList_length] at hp
    rw [effList_nth _ _ _ _ hp, effList_nth _ _ _ _ hp, effList_nth _ _ _ _ hp]
    exact effTo_add n a b p _

end Go.Proofs.Ytdaigbamgplboaa
