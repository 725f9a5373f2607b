/- Plain words for the net with a place for each work; what is done in a case is a run of it. -/
import Derived.Test.YteohpkicbkhpjaaCaseBase
namespace Go.Proofs.Yteohpkicbkhpjaa
set_option linter.unusedVariables false
set_option maxRecDepth 4000

/-- How many of the first so many transitions have a label. -/
def seenTo (ts : List TranL) : Nat → Nat
  | 0 => 0
  | k + 1 => seenTo ts k + (if (tranAt ts k).label = 0 then 0 else 1)
theorem seen_le (ts : List TranL) : ∀ k, seenTo ts k ≤ k
  | 0 => Nat.le_refl _
  | k + 1 => by have := seen_le ts k; simp only [seenTo]; split <;> omega
theorem seen_mono (ts : List TranL) {a b : Nat} (h : a ≤ b) : seenTo ts a ≤ seenTo ts b := by
  induction b with
  | zero => obtain rfl : a = 0 := by omega
            exact Nat.le_refl _
  | succ b ih =>
    by_cases e : a = b + 1
    · subst e; exact Nat.le_refl _
    · have := ih (by omega); simp only [seenTo]; omega
theorem seen_lt (ts : List TranL) {a b : Nat} (h : a < b) (hl : (tranAt ts a).label ≠ 0) : seenTo ts a < seenTo ts b := by
  have h1 : seenTo ts (a + 1) = seenTo ts a + 1 := by simp [seenTo, hl]
  have h2 := seen_mono ts (show a + 1 ≤ b by omega)
  omega
theorem seen_onto (ts : List TranL) : ∀ (m k : Nat), k < seenTo ts m → ∃ t, t < m ∧ (tranAt ts t).label ≠ 0 ∧ seenTo ts t = k
  | 0, k, h => absurd h (Nat.not_lt_zero _)
  | m + 1, k, h => by
    by_cases hk : k < seenTo ts m
    · obtain ⟨t, h1, h2⟩ := seen_onto ts m k hk
      exact ⟨t, by omega, h2⟩
    · simp only [seenTo] at h
      by_cases hl : (tranAt ts m).label = 0
      · rw [if_pos hl] at h; omega
      · rw [if_neg hl] at h
        exact ⟨m, by omega, hl, by omega⟩

def oneAt (S k : Nat) : List Int := mapTo S fun j => if j = k then 1 else 0
theorem one_length (S k : Nat) : (oneAt S k).length = S := mapTo_length _ _
theorem one_at {S k j : Nat} (h : j < S) : nth (oneAt S k) j = if j = k then 1 else 0 := mapTo_nth _ _ _ h

/-- What becomes of a transition: itself, or two, with a place between. -/
def busyT (P S k : Nat) (t : TranL) : List TranL :=
  if t.label = 0 then [⟨0, t.pre ++ zerosL S, t.post ++ zerosL S⟩]
  else [⟨0, t.pre ++ zerosL S, zerosL P ++ oneAt S k⟩, ⟨t.label, zerosL P ++ oneAt S k, t.post ++ zerosL S⟩]
def busyTo (ts : List TranL) (P S : Nat) : Nat → List TranL
  | 0 => []
  | m + 1 => busyTo ts P S m ++ busyT P S (seenTo ts m) (tranAt ts m)
theorem busyTo_length (ts : List TranL) (P S : Nat) : ∀ m, (busyTo ts P S m).length = m + seenTo ts m
  | 0 => rfl
  | m + 1 => by
    simp only [busyTo, seenTo, List.length_append, busyTo_length ts P S m, busyT]
    split
    · simp; omega
    · simp; omega
/-- The net with a place for each work. -/
def busyN (n : NetL) : NetL × Int :=
  if netOk n then
    (if n.places + (seenTo n.trans n.trans.length : Int) > 16 ∨ n.trans.length + seenTo n.trans n.trans.length > 24 then (⟨0, []⟩, 4)
     else (⟨n.places + (seenTo n.trans n.trans.length : Int), busyTo n.trans n.places.toNat (seenTo n.trans n.trans.length) n.trans.length⟩, 0))
  else (⟨0, []⟩, 2)
theorem busy_bad {n : NetL} (h : netOk n = false) : busyN n = (⟨0, []⟩, 2) := by simp [busyN, h]
theorem busy_full {n : NetL} (h : netOk n = true) (hf : n.places + (seenTo n.trans n.trans.length : Int) > 16 ∨ n.trans.length + seenTo n.trans n.trans.length > 24) : busyN n = (⟨0, []⟩, 4) := by simp [busyN, h, hf]
theorem busy_ok {n : NetL} (h : netOk n = true) (hf : ¬ (n.places + (seenTo n.trans n.trans.length : Int) > 16 ∨ n.trans.length + seenTo n.trans n.trans.length > 24)) :
    busyN n = (⟨n.places + (seenTo n.trans n.trans.length : Int), busyTo n.trans n.places.toNat (seenTo n.trans n.trans.length) n.trans.length⟩, 0) := by unfold busyN; rw [if_pos h, if_neg hf]

theorem tran_at_append {xs ys : List TranL} {j : Nat} (h : xs.length ≤ j) : tranAt (xs ++ ys) j = tranAt ys (j - xs.length) := by
  unfold tranAt
  rw [List.getD_eq_getElem?_getD, List.getD_eq_getElem?_getD, List.getElem?_append_right h]
theorem tran_at_left {xs ys : List TranL} {j : Nat} (h : j < xs.length) : tranAt (xs ++ ys) j = tranAt xs j := by
  unfold tranAt
  rw [List.getD_eq_getElem?_getD, List.getD_eq_getElem?_getD, List.getElem?_append_left h]
/-- Where each one lies. -/
theorem busyTo_at (ts : List TranL) (P S : Nat) {t : Nat} : ∀ {m : Nat}, t < m → ∀ j, j < (busyT P S (seenTo ts t) (tranAt ts t)).length → t + seenTo ts t + j < (busyTo ts P S m).length ∧ tranAt (busyTo ts P S m) (t + seenTo ts t + j) = tranAt (busyT P S (seenTo ts t) (tranAt ts t)) j
  | 0, h => absurd h (Nat.not_lt_zero _)
  | m + 1, h => by
    intro j hj
    by_cases e : t = m
    · subst e
      have hl := busyTo_length ts P S t
      simp only [busyTo, List.length_append]
      refine ⟨by omega, ?_⟩
      rw [tran_at_append (by omega), show t + seenTo ts t + j - (busyTo ts P S t).length = j by omega]
    · obtain ⟨h1, h2⟩ := busyTo_at ts P S (show t < m by omega) j hj
      simp only [busyTo, List.length_append]
      exact ⟨by omega, by rw [tran_at_left h1]; exact h2⟩

theorem nth_app {xs ys : List Int} {j : Nat} : nth (xs ++ ys) j = if j < xs.length then nth xs j else nth ys (j - xs.length) := by
  unfold nth
  rw [List.getD_eq_getElem?_getD, List.getD_eq_getElem?_getD, List.getD_eq_getElem?_getD]
  split
  · rename_i h; rw [List.getElem?_append_left h]
  · rename_i h; rw [List.getElem?_append_right (by omega)]

/-- The case is the mark. -/
structure Sim (n : NetL) (P S : Nat) (c : CaseL) (m : List Int) : Prop where
  len : m.length = P + S
  place : ∀ p, p < P → nth m p = nth c.mark p
  work : ∀ t, t < n.trans.length → (tranAt n.trans t).label ≠ 0 → nth m (P + seenTo n.trans t) = nth c.busy t
  none : ∀ t, t < n.trans.length → (tranAt n.trans t).label = 0 → nth c.busy t = 0

/-- What both nets are. -/
structure BusyOk (n : NetL) (P S : Nat) (b : NetL) : Prop where
  ok : netOk n = true
  places : n.places = (P : Int)
  seen : S = seenTo n.trans n.trans.length
  p16 : P + S ≤ 16
  t24 : n.trans.length + S ≤ 24
  net : b = ⟨((P + S : Nat) : Int), busyTo n.trans P S n.trans.length⟩

theorem busy_some {n : NetL} (h : (busyN n).2 = 0) : ∃ P S, BusyOk n P S (busyN n).1 := by
  cases hn : netOk n with
  | false => rw [busy_bad hn] at h; cases h
  | true =>
    by_cases hf : n.places + (seenTo n.trans n.trans.length : Int) > 16 ∨ n.trans.length + seenTo n.trans n.trans.length > 24
    · rw [busy_full hn hf] at h; cases h
    · have hp : 0 ≤ n.places := by
        unfold netOk headOk at hn
        simp only [Bool.and_eq_true, decide_eq_true_eq] at hn
        omega
      exact ⟨n.places.toNat, seenTo n.trans n.trans.length, hn, by omega, rfl, by omega, by omega, by
        rw [busy_ok hn hf]
        show NetL.mk (n.places + (seenTo n.trans n.trans.length : Int)) _ = _
        rw [show n.places + (seenTo n.trans n.trans.length : Int) = ((n.places.toNat + seenTo n.trans n.trans.length : Nat) : Int) by omega]⟩

theorem BusyOk.ok_net {n b : NetL} {P S : Nat} (h : BusyOk n P S b) : netOk b = true := by
  have hw : ∀ k, k < n.trans.length → (tranAt n.trans k).pre.all weightOk = true ∧ (tranAt n.trans k).post.all weightOk = true ∧ 0 ≤ (tranAt n.trans k).label ∧ (tranAt n.trans k).label ≤ 26 ∧ (tranAt n.trans k).pre.length = P ∧ (tranAt n.trans k).post.length = P := fun k hk => by
    have h1 := net_tran h.ok hk
    have h2 := h.places
    simp only [tranOk, tranHead, Bool.and_eq_true, beq_iff_eq, decide_eq_true_eq, List.all_append] at h1
    exact ⟨h1.2.1, h1.2.2, h1.1.1.1.1, h1.1.1.1.2, by omega, by omega⟩
  have hz : ∀ k, (zerosL k).all weightOk = true := fun k => by
    rw [List.all_eq_true]
    intro x hx
    rw [show x = 0 from (List.mem_replicate.1 hx).2]; rfl
  have ho : ∀ k j, (oneAt k j).all weightOk = true := fun k j => by
    rw [List.all_eq_true]
    intro x hx
    unfold oneAt mapTo at hx
    obtain ⟨i, _, rfl⟩ := List.mem_map.1 hx
    split <;> rfl
  have hT : ∀ m, m ≤ n.trans.length → (busyTo n.trans P S m).all (tranOk ((P + S : Nat) : Int)) = true := by
    intro m
    induction m with
    | zero => intro _; rfl
    | succ m ih =>
      intro hm
      obtain ⟨w1, w2, l1, l2, e1, e2⟩ := hw m (by omega)
      simp only [busyTo, List.all_append, Bool.and_eq_true]
      refine ⟨ih (by omega), ?_⟩
      unfold busyT
      split
      · simp [tranOk, tranHead, List.all_append, w1, w2, hz, e1, e2, zeros_length]
      · simp [tranOk, tranHead, List.all_append, w1, w2, hz, ho, e1, e2, zeros_length, one_length, l1, l2]
  rw [h.net]
  unfold netOk headOk
  simp only [Bool.and_eq_true, decide_eq_true_eq]
  have := h.p16
  have := h.t24
  have hs := h.seen
  exact ⟨⟨⟨by omega, by omega⟩, by rw [busyTo_length]; omega⟩, hT _ (Nat.le_refl _)⟩

theorem BusyOk.seen_lt {n b : NetL} {P S : Nat} (h : BusyOk n P S b) {t : Nat} (ht : t < n.trans.length) (hl : (tranAt n.trans t).label ≠ 0) : seenTo n.trans t < S := by
  rw [h.seen]; exact Proofs.Yteohpkicbkhpjaa.seen_lt n.trans ht hl

/-- What a firing of the wider net is. -/
theorem BusyOk.fire {n b : NetL} {P S : Nat} (h : BusyOk n P S b) {c c' : CaseL} {m : List Int} {k : Nat} {j : Nat} {pr po : List Int} (hs : Sim n P S c m) (hlt : k + seenTo n.trans k + j < b.trans.length)
    (ht : tranAt b.trans (k + seenTo n.trans k + j) = ⟨(tranAt b.trans (k + seenTo n.trans k + j)).label, pr, po⟩)
    (hm0 : ∀ q, 0 ≤ nth m q ∧ nth m q ≤ 1000000)
    (hcov : ∀ q, nth pr q ≤ nth m q) (hr : ∀ q, 0 ≤ nth m q - nth pr q + nth po q ∧ nth m q - nth pr q + nth po q ≤ 1000000)
    (h1 : ∀ p, p < P → nth c'.mark p = nth c.mark p - nth pr p + nth po p)
    (h2 : ∀ t, t < n.trans.length → (tranAt n.trans t).label ≠ 0 → nth c'.busy t = nth c.busy t - nth pr (P + seenTo n.trans t) + nth po (P + seenTo n.trans t))
    (h3 : ∀ t, t < n.trans.length → (tranAt n.trans t).label = 0 → nth c'.busy t = 0) (hlr : pr.length = P + S) (hlo : po.length = P + S) :
    ∃ m', fireL b m ((k + seenTo n.trans k + j : Nat) : Int) = (m', 0) ∧ Sim n P S c' m' := by
  have hbp : b.places = ((P + S : Nat) : Int) := by rw [h.net]
  have e1 : (tranAt b.trans (k + seenTo n.trans k + j)).pre = pr := by rw [ht]
  have e2 : (tranAt b.trans (k + seenTo n.trans k + j)).post = po := by rw [ht]
  refine ⟨_, fire_mk hlt (fits_mk h.ok_net (by rw [hs.len, hbp]) ((rightL_iff _).2 hm0)) ((coversL_iff _ _).2 fun q => by rw [e1]; exact hcov q) ((rightL_iff _).2 fun q => ?_), ?_⟩
  · rw [add_at, sub_at, e1, e2]; exact hr q
  · refine ⟨by rw [add_length, sub_length, hs.len, e1, e2, hlr, hlo]; omega, fun p hp => ?_, fun t htl hl => ?_, h3⟩
    · rw [add_at, sub_at, e1, e2, h1 p hp, hs.place p hp]
    · rw [add_at, sub_at, e1, e2, h2 t htl hl, hs.work t htl hl]

theorem Sim.bounds {n b : NetL} {P S : Nat} {c : CaseL} {m : List Int} (h : BusyOk n P S b) (hs : Sim n P S c m) (hr : rightC n c = true) : ∀ q, 0 ≤ nth m q ∧ nth m q ≤ 1000000 := by
  obtain ⟨hf, _, hb⟩ := rightC_iff.1 hr
  have hm := (rightL_iff _).1 (fits_net hf).2.2
  have hbb := (rightL_iff _).1 hb
  intro q
  by_cases h1 : q < P
  · rw [hs.place q h1]; exact hm q
  · by_cases h2 : q < P + S
    · obtain ⟨t, ht, hl, e⟩ := seen_onto n.trans n.trans.length (q - P) (by rw [← h.seen]; omega)
      have := hs.work t ht hl
      rw [e, show P + (q - P) = q by omega] at this
      rw [this]; exact hbb t
    · rw [nth_past _ _ (by rw [hs.len]; omega)]; omega

/-- One thing done, that is no giving back, is one firing. -/
theorem Sim.step {n b : NetL} {P S : Nat} {c x : CaseL} {m : List Int} {kind : Int} {k : Nat} (h : BusyOk n P S b) (hs : Sim n P S c m) (hd : DoOk n c kind k x) (h4 : kind ≠ 4) :
    ∃ m', fireL b m ((k + seenTo n.trans k + (if kind = 3 then 1 else 0) : Nat) : Int) = (m', 0) ∧ Sim n P S x m' := by
  obtain ⟨hf, hbl, hbr⟩ := rightC_iff.1 hd.right
  obtain ⟨hf2, _, hbr2⟩ := rightC_iff.1 hd.right2
  obtain ⟨hn, hml, hmr⟩ := fits_net hf
  have hm0 := hs.bounds h hd.right
  have hpl : (tranAt n.trans k).pre.length = P := by have := (tran_length hn hd.lt).1; have := h.places; omega
  have hql : (tranAt n.trans k).post.length = P := by have := (tran_length hn hd.lt).2; have := h.places; omega
  have hxm := (rightL_iff _).1 (fits_net hf2).2.2
  have hxb := (rightL_iff _).1 hbr2
  have hcov := (coversL_iff _ _).1 hd.covers
  have hmore := hd.more
  have hx := hd.out
  have hbt : b.trans = busyTo n.trans P S n.trans.length := by rw [h.net]
  have hk1 := hd.kind1
  have hk4 := hd.kind4
  have hdlt := hd.lt
  have prew := (rightL_iff _).1 (tran_right (net_tran hn hd.lt)).1
  have postw := (rightL_iff _).1 (tran_right (net_tran hn hd.lt)).2
  have hbusy : ∀ t, nth x.busy t = if t = k then nth c.busy k + moreC kind else nth c.busy t := fun t => by
    rw [hx]; exact nth_set' _ _ _ _ (by rw [hbl]; exact hd.lt)
  have hmark : ∀ p, nth x.mark p = nth c.mark p - nth (takeC (tranAt n.trans k) kind) p + nth (giveC (tranAt n.trans k) kind) p := fun p => by
    rw [hx]; show nth (addL (subL _ _) _) p = _; rw [add_at, sub_at]
  have wide : ∀ (l : List Int), l.length = P → ∀ q, nth (l ++ zerosL S) q = nth l q := fun l hl q => by
    rw [nth_app]; split
    · rfl
    · rw [zeros_at, nth_past _ _ (by omega)]
  have behind : ∀ q, nth (zerosL P ++ oneAt S (seenTo n.trans k)) q = if P ≤ q ∧ q < P + S ∧ q = P + seenTo n.trans k then 1 else 0 := fun q => by
    rw [nth_app, zeros_length]
    by_cases h1 : q < P
    · rw [if_pos h1, zeros_at, if_neg (by omega)]
    · rw [if_neg h1]
      by_cases h2 : q < P + S
      · rw [one_at (by omega)]
        by_cases h3 : q = P + seenTo n.trans k
        · rw [if_pos (by omega), if_pos (by omega)]
        · rw [if_neg (by omega), if_neg (by omega)]
      · rw [nth_past _ _ (by rw [one_length]; omega), if_neg (by omega)]
  have inj : ∀ t, t < n.trans.length → (tranAt n.trans t).label ≠ 0 → (tranAt n.trans k).label ≠ 0 → seenTo n.trans t = seenTo n.trans k → t = k := fun t ht hl hlk e => by
    rcases Nat.lt_trichotomy t k with h1 | h1 | h1
    · have := Proofs.Yteohpkicbkhpjaa.seen_lt n.trans h1 hl; omega
    · exact h1
    · have := Proofs.Yteohpkicbkhpjaa.seen_lt n.trans h1 hlk; omega
  by_cases hk : kind = 1
  · subst hk
    have hlab := hd.form.2 rfl
    have eT : busyT P S (seenTo n.trans k) (tranAt n.trans k) = [⟨0, (tranAt n.trans k).pre ++ zerosL S, (tranAt n.trans k).post ++ zerosL S⟩] := by unfold busyT; rw [if_pos hlab]
    obtain ⟨q1, q2⟩ := busyTo_at n.trans P S hd.lt 0 (by rw [eT]; simp)
    rw [eT] at q2
    simp only [takeC, giveC] at hcov hmark
    rw [if_pos (by simp)] at hcov
    have hmark : ∀ p, nth x.mark p = nth c.mark p - nth (tranAt n.trans k).pre p + nth (tranAt n.trans k).post p := fun p => by have := hmark p; simpa using this
    rw [if_neg (by omega)]
    refine h.fire (c := c) (c' := x) (pr := (tranAt n.trans k).pre ++ zerosL S) (po := (tranAt n.trans k).post ++ zerosL S) hs (by rw [hbt]; exact q1) (by rw [hbt, q2]; rfl) hm0 (fun q => ?_) (fun q => ?_) (fun p hp => ?_) (fun t ht hl => ?_) (fun t ht hl => ?_) (by simp [hpl, zeros_length]) (by simp [hql, zeros_length])
    · rw [wide _ hpl]
      by_cases hq : q < P
      · rw [hs.place q hq]; exact hcov q
      · rw [nth_past _ _ (by omega)]; exact (hm0 q).1
    · rw [wide _ hpl, wide _ hql]
      by_cases hq : q < P
      · rw [hs.place q hq, ← hmark q]; exact hxm q
      · rw [nth_past (tranAt n.trans k).pre _ (by omega), nth_past (tranAt n.trans k).post _ (by omega)]; have := hm0 q; omega
    · rw [wide _ hpl, wide _ hql]; exact hmark p
    · rw [wide _ hpl, wide _ hql, nth_past (tranAt n.trans k).pre _ (by omega), nth_past (tranAt n.trans k).post _ (by omega), hbusy t]
      rw [if_neg (fun e => by subst e; exact hl hlab)]; omega
    · rw [hbusy t]
      split
      · rename_i e; subst e; rw [hs.none t ht hl]; simp [moreC]
      · exact hs.none t ht hl
  · have hlab : (tranAt n.trans k).label ≠ 0 := fun e => hk (hd.form.1 e)
    have hsk := h.seen_lt hd.lt hlab
    have eT : busyT P S (seenTo n.trans k) (tranAt n.trans k) = [⟨0, (tranAt n.trans k).pre ++ zerosL S, zerosL P ++ oneAt S (seenTo n.trans k)⟩, ⟨(tranAt n.trans k).label, zerosL P ++ oneAt S (seenTo n.trans k), (tranAt n.trans k).post ++ zerosL S⟩] := by unfold busyT; rw [if_neg hlab]
    have hz : ∀ t, t < n.trans.length → (tranAt n.trans t).label = 0 → nth x.busy t = 0 := fun t ht hl => by
      rw [hbusy t, if_neg (fun e => by subst e; exact hlab hl)]; exact hs.none t ht hl
    have hwk := hs.work k hd.lt hlab
    by_cases hk2 : kind = 2
    · subst hk2
      obtain ⟨q1, q2⟩ := busyTo_at n.trans P S hd.lt 0 (by rw [eT]; simp)
      rw [eT] at q2
      simp only [takeC, giveC] at hcov hmark
      rw [if_pos (by simp)] at hcov
      have hmark : ∀ p, nth x.mark p = nth c.mark p - nth (tranAt n.trans k).pre p := fun p => by have := hmark p; simp [nth] at this ⊢; omega
      have hbk := hbusy k
      rw [if_pos rfl] at hbk
      simp only [moreC, if_pos] at hbk
      rw [if_neg (by omega)]
      refine h.fire (c := c) (c' := x) (pr := (tranAt n.trans k).pre ++ zerosL S) (po := zerosL P ++ oneAt S (seenTo n.trans k)) hs (by rw [hbt]; exact q1) (by rw [hbt, q2]; rfl) hm0 (fun q => ?_) (fun q => ?_) (fun p hp => ?_) (fun t ht hl => ?_) hz (by simp [hpl, zeros_length]) (by simp [zeros_length, one_length])
      · rw [wide _ hpl]
        by_cases hq : q < P
        · rw [hs.place q hq]; exact hcov q
        · rw [nth_past _ _ (by omega)]; exact (hm0 q).1
      · rw [wide _ hpl, behind]
        by_cases hq : q < P
        · rw [hs.place q hq, if_neg (by omega)]; have := hmark q; have := hxm q; omega
        · rw [nth_past (tranAt n.trans k).pre _ (by omega)]
          by_cases he : q = P + seenTo n.trans k
          · rw [if_pos (by omega), he, hwk]; have := hxb k; rw [hbk] at this; omega
          · rw [if_neg (by omega)]; have := hm0 q; omega
      · rw [wide _ hpl, behind, if_neg (by omega)]; have := hmark p; omega
      · rw [wide _ hpl, behind, nth_past (tranAt n.trans k).pre _ (by omega), hbusy t]
        have hst := h.seen_lt ht hl
        by_cases he : t = k
        · subst he; rw [if_pos rfl, if_pos (by omega)]; simp [moreC]
        · rw [if_neg he, if_neg (fun q => he (inj t ht hl hlab (by omega)))]; omega
    · have hk3 : kind = 3 := by omega
      subst hk3
      obtain ⟨q1, q2⟩ := busyTo_at n.trans P S hd.lt 1 (by rw [eT]; simp)
      rw [eT] at q2
      simp only [takeC, giveC] at hmark
      have hmark : ∀ p, nth x.mark p = nth c.mark p + nth (tranAt n.trans k).post p := fun p => by have := hmark p; simp [nth] at this ⊢; omega
      have hbk := hbusy k
      rw [if_pos rfl] at hbk
      have hm1 : moreC 3 = -1 := by simp [moreC]
      rw [hm1] at hbk hmore
      rw [if_pos rfl]
      refine h.fire (c := c) (c' := x) (pr := zerosL P ++ oneAt S (seenTo n.trans k)) (po := (tranAt n.trans k).post ++ zerosL S) hs (by rw [hbt]; exact q1) (by rw [hbt, q2]; rfl) hm0 (fun q => ?_) (fun q => ?_) (fun p hp => ?_) (fun t ht hl => ?_) hz (by simp [zeros_length, one_length]) (by simp [hql, zeros_length])
      · rw [behind]
        by_cases he : q = P + seenTo n.trans k
        · rw [if_pos (by omega), he, hwk]; omega
        · rw [if_neg (by omega)]; exact (hm0 q).1
      · rw [wide _ hql, behind]
        by_cases hq : q < P
        · rw [hs.place q hq, if_neg (by omega)]; have := hmark q; have := hxm q; omega
        · rw [nth_past (tranAt n.trans k).post _ (by omega)]
          by_cases he : q = P + seenTo n.trans k
          · rw [if_pos (by omega), he, hwk]; have := hxb k; rw [hbk] at this; omega
          · rw [if_neg (by omega)]; have := hm0 q; omega
      · rw [wide _ hql, behind, if_neg (by omega)]; have := hmark p; omega
      · rw [wide _ hql, behind, nth_past (tranAt n.trans k).post _ (by omega), hbusy t]
        have hst := h.seen_lt ht hl
        by_cases he : t = k
        · subst he; rw [if_pos rfl, if_pos (by omega)]; simp [moreC]; omega
        · rw [if_neg he, if_neg (fun q => he (inj t ht hl hlab (by omega)))]; omega

/-- At the beginning. -/
theorem Sim.start {n b : NetL} {P S : Nat} {i : Int} (h : BusyOk n P S b) (hi : 0 ≤ i ∧ i < n.places) : Sim n P S (beginC n i).1 (startL b.places i) := by
  rw [begin_ok h.ok hi]
  have hbp : b.places = ((P + S : Nat) : Int) := by rw [h.net]
  have h16 := h.p16
  have hP := h.places
  have hN : (min b.places 16).toNat = P + S := by rw [hbp]; omega
  have hN2 : (min n.places 16).toNat = P := by rw [hP]; omega
  refine ⟨by rw [start_length, hN], fun p hp => ?_, fun t ht hl => ?_, fun t ht hl => zeros_at _ _⟩
  · show _ = nth (startL n.places i) p
    rw [start_at _ _ _ (by omega), start_at _ _ _ (by omega)]
  · have := h.seen_lt ht hl
    show _ = nth (zerosL _) t
    rw [zeros_at, start_at _ _ _ (by omega), if_neg (by omega)]

end Go.Proofs.Yteohpkicbkhpjaa
