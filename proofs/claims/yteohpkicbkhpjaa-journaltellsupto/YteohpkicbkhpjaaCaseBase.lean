/- Plain words for cases: nets worked off, with work that takes its time. -/
import Derived.Test.YteohpkicbkhpjaaShapeBase
namespace Go.Proofs.Yteohpkicbkhpjaa
set_option linter.unusedVariables false
set_option maxRecDepth 4000

structure CaseL where
  mark : List Int
  busy : List Int

def noCase : CaseL := ⟨[], []⟩
def rightC (n : NetL) (c : CaseL) : Bool := fitsL n c.mark && (c.busy.length == n.trans.length) && rightL c.busy
def zerosL (k : Nat) : List Int := List.replicate k 0
theorem zeros_length (k : Nat) : (zerosL k).length = k := List.length_replicate
theorem zeros_at (k j : Nat) : nth (zerosL k) j = 0 := by
  unfold nth zerosL
  rw [List.getD_eq_getElem?_getD, List.getElem?_replicate]
  split <;> rfl
theorem zeros_right (k : Nat) : rightL (zerosL k) = true := (rightL_iff _).2 fun j => by rw [zeros_at]; omega

/-- Where it begins. -/
def beginC (n : NetL) (i : Int) : CaseL × Int :=
  if netOk n then (if 0 ≤ i ∧ i < n.places then (⟨startL n.places i, zerosL n.trans.length⟩, 0) else (noCase, 3)) else (noCase, 2)
theorem begin_bad {n : NetL} {i : Int} (h : netOk n = false) : beginC n i = (noCase, 2) := by simp [beginC, h]
theorem begin_none {n : NetL} {i : Int} (h : netOk n = true) (hi : ¬ (0 ≤ i ∧ i < n.places)) : beginC n i = (noCase, 3) := by simp [beginC, h, hi]
theorem begin_ok {n : NetL} {i : Int} (h : netOk n = true) (hi : 0 ≤ i ∧ i < n.places) : beginC n i = (⟨startL n.places i, zerosL n.trans.length⟩, 0) := by simp [beginC, h, hi]

/-- What is taken, what is given, how many more go on. -/
def takeC (t : TranL) (kind : Int) : List Int := if kind = 1 ∨ kind = 2 then t.pre else []
def giveC (t : TranL) (kind : Int) : List Int := if kind = 1 ∨ kind = 3 then t.post else if kind = 4 then t.pre else []
def moreC (kind : Int) : Int := if kind = 2 then 1 else if kind = 3 ∨ kind = 4 then -1 else 0
def outC (n : NetL) (c : CaseL) (kind : Int) (k : Nat) : CaseL :=
  ⟨addL (subL c.mark (takeC (tranAt n.trans k) kind)) (giveC (tranAt n.trans k) kind), c.busy.set k (nth c.busy k + moreC kind)⟩
def doC (n : NetL) (c : CaseL) (kind tran : Int) : CaseL × Int :=
  if rightC n c = false then (noCase, 2)
  else if kind < 1 ∨ 4 < kind then (noCase, 5)
  else if tran < 0 ∨ (n.trans.length : Int) ≤ tran then (noCase, 3)
  else if ¬ ((tranAt n.trans tran.toNat).label = 0 ↔ kind = 1) then (noCase, 1)
  else if coversL c.mark (takeC (tranAt n.trans tran.toNat) kind) = false ∨ nth c.busy tran.toNat + moreC kind < 0 then (noCase, 3)
  else if rightC n (outC n c kind tran.toNat) then (outC n c kind tran.toNat, 0) else (noCase, 4)

theorem do_range {n : NetL} {c : CaseL} {kind tran : Int} (h : rightC n c = false) : doC n c kind tran = (noCase, 2) := by simp [doC, h]
theorem do_kind {n : NetL} {c : CaseL} {kind tran : Int} (h : rightC n c = true) (hk : kind < 1 ∨ 4 < kind) : doC n c kind tran = (noCase, 5) := by simp [doC, h, hk]
theorem do_none {n : NetL} {c : CaseL} {kind tran : Int} (h : rightC n c = true) (hk : ¬ (kind < 1 ∨ 4 < kind)) (ht : tran < 0 ∨ (n.trans.length : Int) ≤ tran) : doC n c kind tran = (noCase, 3) := by
  unfold doC; rw [if_neg (by simp [h]), if_neg hk, if_pos ht]
theorem do_form {n : NetL} {c : CaseL} {kind : Int} {k : Nat} (h : rightC n c = true) (hk : ¬ (kind < 1 ∨ 4 < kind)) (ht : k < n.trans.length) (hf : ¬ ((tranAt n.trans k).label = 0 ↔ kind = 1)) : doC n c kind k = (noCase, 1) := by
  unfold doC; rw [if_neg (by simp [h]), if_neg hk, if_neg (by omega), Int.toNat_natCast, if_pos hf]
theorem do_not {n : NetL} {c : CaseL} {kind : Int} {k : Nat} (h : rightC n c = true) (hk : ¬ (kind < 1 ∨ 4 < kind)) (ht : k < n.trans.length) (hf : ((tranAt n.trans k).label = 0 ↔ kind = 1))
    (hc : coversL c.mark (takeC (tranAt n.trans k) kind) = false ∨ nth c.busy k + moreC kind < 0) : doC n c kind k = (noCase, 3) := by
  unfold doC; rw [if_neg (by simp [h]), if_neg hk, if_neg (by omega), Int.toNat_natCast, if_neg (fun q => q hf), if_pos hc]
theorem do_out {n : NetL} {c : CaseL} {kind : Int} {k : Nat} (h : rightC n c = true) (hk : ¬ (kind < 1 ∨ 4 < kind)) (ht : k < n.trans.length) (hf : ((tranAt n.trans k).label = 0 ↔ kind = 1))
    (hc : ¬ (coversL c.mark (takeC (tranAt n.trans k) kind) = false ∨ nth c.busy k + moreC kind < 0)) : doC n c kind k = if rightC n (outC n c kind k) then (outC n c kind k, 0) else (noCase, 4) := by
  unfold doC; rw [if_neg (by simp [h]), if_neg hk, if_neg (by omega), Int.toNat_natCast, if_neg (fun q => q hf), if_neg hc]

structure DoOk (n : NetL) (c : CaseL) (kind : Int) (k : Nat) (x : CaseL) : Prop where
  right : rightC n c = true
  kind1 : 1 ≤ kind
  kind4 : kind ≤ 4
  lt : k < n.trans.length
  form : (tranAt n.trans k).label = 0 ↔ kind = 1
  covers : coversL c.mark (takeC (tranAt n.trans k) kind) = true
  more : 0 ≤ nth c.busy k + moreC kind
  out : x = outC n c kind k
  right2 : rightC n x = true
theorem do_ok {n : NetL} {c x : CaseL} {kind tran : Int} : doC n c kind tran = (x, 0) ↔ ∃ k : Nat, tran = k ∧ DoOk n c kind k x := by
  constructor
  · intro h
    cases hr : rightC n c with
    | false => rw [do_range hr] at h; injection h with _ h; cases h
    | true =>
      by_cases hk : kind < 1 ∨ 4 < kind
      · rw [do_kind hr hk] at h; injection h with _ h; cases h
      · by_cases ht : tran < 0 ∨ (n.trans.length : Int) ≤ tran
        · rw [do_none hr hk ht] at h; injection h with _ h; cases h
        · obtain ⟨k, rfl⟩ := Int.eq_ofNat_of_zero_le (show 0 ≤ tran by omega)
          by_cases hf : ((tranAt n.trans k).label = 0 ↔ kind = 1)
          · by_cases hc : coversL c.mark (takeC (tranAt n.trans k) kind) = false ∨ nth c.busy k + moreC kind < 0
            · rw [do_not hr hk (by omega) hf hc] at h; injection h with _ h; cases h
            · rw [do_out hr hk (by omega) hf hc] at h
              cases hr2 : rightC n (outC n c kind k) with
              | false => rw [hr2] at h; injection h with _ h; cases h
              | true =>
                rw [hr2, if_pos rfl] at h
                injection h with h _
                exact ⟨k, rfl, hr, by omega, by omega, by omega, hf, by cases q : coversL c.mark (takeC (tranAt n.trans k) kind) <;> simp_all, by omega, h.symm, by rw [← h]; exact hr2⟩
          · rw [do_form hr hk (by omega) hf] at h; injection h with _ h; cases h
  · rintro ⟨k, rfl, h⟩
    rw [do_out h.right (by have := h.kind1; have := h.kind4; omega) h.lt h.form (by rw [h.covers]; have := h.more; simp; omega), if_pos (by rw [← h.out]; exact h.right2), h.out]

theorem do_err {n : NetL} {c : CaseL} {kind tran : Int} (h : (doC n c kind tran).2 ≠ 0) : (doC n c kind tran).1 = noCase := by
  unfold doC at h ⊢
  repeat' split
  all_goals first | rfl | skip
  simp_all

theorem rightC_iff {n : NetL} {c : CaseL} : rightC n c = true ↔ fitsL n c.mark = true ∧ c.busy.length = n.trans.length ∧ rightL c.busy = true := by
  unfold rightC; simp [Bool.and_eq_true, and_assoc]

theorem sub_nil (m : List Int) : subL m [] = m := eq_of_at (by rw [sub_length]; simp) fun j => by rw [sub_at]; simp [nth]
theorem add_nil (m : List Int) : addL m [] = m := eq_of_at (by rw [add_length]; simp) fun j => by rw [add_at]; simp [nth]
theorem nth_set' (xs : List Int) (i : Nat) (x : Int) (p : Nat) (hi : i < xs.length) : nth (xs.set i x) p = if p = i then x else nth xs p := by
  unfold nth
  rw [List.getD_eq_getElem?_getD, List.getD_eq_getElem?_getD, List.getElem?_set]
  by_cases e : i = p
  · subst e; simp [hi]
  · rw [if_neg e, if_neg (fun q => e q.symm)]
theorem set_back (xs : List Int) (i : Nat) (x : Int) (hi : i < xs.length) : (xs.set i x).set i (nth xs i) = xs := eq_of_at (by simp) fun j => by
  rw [nth_set' _ _ _ _ (by simpa using hi), nth_set' _ _ _ _ hi]
  split
  · rename_i e; rw [e]
  · rfl

/-- What was begun and given back is as if it had not been. -/
theorem case_undo {n : NetL} {c x : CaseL} {t : Int} (h : doC n c 2 t = (x, 0)) : doC n x 4 t = (c, 0) := by
  replace h := do_ok.1 h
  obtain ⟨k, rfl, h⟩ := h
  obtain ⟨hf, hl, hr⟩ := rightC_iff.1 h.right
  obtain ⟨hn, hm, _⟩ := fits_net hf
  have hpl := (tran_length hn h.lt).1
  have ht : takeC (tranAt n.trans k) 2 = (tranAt n.trans k).pre := by simp [takeC]
  have hg : giveC (tranAt n.trans k) 2 = [] := by simp [giveC]
  have ht4 : takeC (tranAt n.trans k) 4 = [] := by simp [takeC]
  have hg4 : giveC (tranAt n.trans k) 4 = (tranAt n.trans k).pre := by simp [giveC]
  have hb := (rightL_iff _).1 hr k
  have e : outC n x 4 k = c := by
    rw [h.out]
    unfold outC
    rw [ht, hg, ht4, hg4, sub_nil, add_nil]
    cases c with
    | mk m b =>
      congr 1
      · refine eq_of_at ?_ fun j => ?_
        · show (addL (subL m _) _).length = m.length
          replace hm : (m.length : Int) = n.places := hm
          rw [add_length, sub_length]; omega
        · show nth (addL (subL m _) _) j = nth m j
          rw [add_at, sub_at]; omega
      · show (b.set k (nth b k + moreC 2)).set k (nth (b.set k (nth b k + moreC 2)) k + moreC 4) = b
        rw [nth_set' _ _ _ _ (by rw [show b.length = _ from hl]; exact h.lt), if_pos rfl, show nth b k + moreC 2 + moreC 4 = nth b k by simp [moreC]; try omega]
        exact set_back _ _ _ (by rw [show b.length = _ from hl]; exact h.lt)
  refine do_ok.2 ⟨k, rfl, h.right2, by omega, by omega, h.lt, ?_, ?_, ?_, e.symm, h.right⟩
  · have := h.form; constructor
    · intro q; have := this.1 q; omega
    · intro q; omega
  · rw [ht4, h.out]
    exact (coversL_iff _ _).2 fun j => by
      have := (rightL_iff _).1 (fits_net (rightC_iff.1 h.right2).1).2.2 j
      rw [h.out] at this
      simp [nth] at this ⊢
      omega
  · rw [h.out]
    show 0 ≤ nth (c.busy.set k _) k + moreC 4
    rw [nth_set' _ _ _ _ (by rw [hl]; exact h.lt), if_pos rfl]
    simp [moreC]; omega

/-- Begun and ended at once it is a firing. -/
theorem case_once {n : NetL} {c x : CaseL} {t : Int} (h : doC n c 2 t = (x, 0)) :
    (∃ m, fireL n c.mark t = (m, 0) ∧ doC n x 3 t = (⟨m, c.busy⟩, 0)) ∨ ((fireL n c.mark t).2 = 4 ∧ (doC n x 3 t).2 = 4) := by
  replace h := do_ok.1 h
  obtain ⟨k, rfl, h⟩ := h
  obtain ⟨hf, hl, hr⟩ := rightC_iff.1 h.right
  obtain ⟨hn, hm, hmr⟩ := fits_net hf
  obtain ⟨hpl, hql⟩ := tran_length hn h.lt
  have ht : takeC (tranAt n.trans k) 2 = (tranAt n.trans k).pre := by simp [takeC]
  have hg : giveC (tranAt n.trans k) 2 = [] := by simp [giveC]
  have ht3 : takeC (tranAt n.trans k) 3 = [] := by simp [takeC]
  have hg3 : giveC (tranAt n.trans k) 3 = (tranAt n.trans k).post := by simp [giveC]
  have hb := (rightL_iff _).1 hr k
  have hcov := h.covers
  rw [ht] at hcov
  have e : outC n x 3 k = ⟨addL (subL c.mark (tranAt n.trans k).pre) (tranAt n.trans k).post, c.busy⟩ := by
    rw [h.out]
    unfold outC
    rw [ht, hg, ht3, hg3, sub_nil, add_nil]
    congr 1
    show (c.busy.set k (nth c.busy k + moreC 2)).set k (nth (c.busy.set k (nth c.busy k + moreC 2)) k + moreC 3) = c.busy
    rw [nth_set' _ _ _ _ (by rw [hl]; exact h.lt), if_pos rfl, show nth c.busy k + moreC 2 + moreC 3 = nth c.busy k by simp [moreC]; try omega]
    exact set_back _ _ _ (by rw [hl]; exact h.lt)
  have hfm : (tranAt n.trans k).label = 0 ↔ (3 : Int) = 1 := by
    have := h.form; constructor
    · intro q; have := this.1 q; omega
    · intro q; omega
  have hnc : ¬ (coversL x.mark (takeC (tranAt n.trans k) 3) = false ∨ nth x.busy k + moreC 3 < 0) := by
    rw [ht3]
    rintro (q | q)
    · have : coversL x.mark [] = true := (coversL_iff _ _).2 fun j => by
        have := (rightL_iff _).1 (fits_net (rightC_iff.1 h.right2).1).2.2 j
        simp [nth] at this ⊢
        omega
      rw [this] at q; cases q
    · rw [h.out] at q
      have q : nth (c.busy.set k (nth c.busy k + moreC 2)) k + moreC 3 < 0 := q
      rw [nth_set' _ _ _ _ (by rw [hl]; exact h.lt), if_pos rfl] at q
      simp [moreC] at q; omega
  have hd := do_out h.right2 (kind := 3) (by omega) h.lt hfm hnc
  rw [e] at hd
  cases hr2 : rightL (addL (subL c.mark (tranAt n.trans k).pre) (tranAt n.trans k).post) with
  | true =>
    refine .inl ⟨_, fire_mk h.lt hf hcov hr2, ?_⟩
    rw [hd, if_pos]
    exact rightC_iff.2 ⟨fits_mk hn (by rw [add_length, sub_length]; omega) hr2, hl, hr⟩
  | false =>
    refine .inr ⟨?_, ?_⟩
    · unfold fireL
      rw [hf, decide_eq_true (show (0 : Int) ≤ k by omega), decide_eq_true (show (k : Int) < n.trans.length by have := h.lt; omega), Int.toNat_natCast, hcov, hr2]
      rfl
    · rw [hd, if_neg]
      intro q
      obtain ⟨q1, _, _⟩ := rightC_iff.1 q
      have := (fits_net q1).2.2
      rw [show (CaseL.mk (addL (subL c.mark (tranAt n.trans k).pre) (tranAt n.trans k).post) c.busy).mark = addL (subL c.mark (tranAt n.trans k).pre) (tranAt n.trans k).post from rfl, hr2] at this
      cases this

/-- One thing behind the other; what has an error changes nothing. -/
def playC (n : NetL) : CaseL → List (Int × Int) → CaseL × List Int
  | c, [] => (c, [])
  | c, o :: os => ((playC n (if (doC n c o.1 o.2).2 = 0 then (doC n c o.1 o.2).1 else c) os).1, (doC n c o.1 o.2).2 :: (playC n (if (doC n c o.1 o.2).2 = 0 then (doC n c o.1 o.2).1 else c) os).2)
def stepC (n : NetL) (c : CaseL) (o : Int × Int) : CaseL := if (doC n c o.1 o.2).2 = 0 then (doC n c o.1 o.2).1 else c
theorem play_snoc (n : NetL) : ∀ (os : List (Int × Int)) (c : CaseL) (o : Int × Int), playC n c (os ++ [o]) = (stepC n (playC n c os).1 o, (playC n c os).2 ++ [(doC n (playC n c os).1 o.1 o.2).2])
  | [], c, o => rfl
  | p :: os, c, o => by
    have := play_snoc n os (stepC n c p) o
    show ((playC n (stepC n c p) (os ++ [o])).1, _ :: (playC n (stepC n c p) (os ++ [o])).2) = _
    rw [this]; rfl
theorem play_length (n : NetL) : ∀ (os : List (Int × Int)) (c : CaseL), (playC n c os).2.length = os.length
  | [], _ => rfl
  | p :: os, c => by
    show ((doC n c p.1 p.2).2 :: (playC n (stepC n c p) os).2).length = _
    rw [List.length_cons, play_length n os, List.length_cons]
theorem step_right {n : NetL} {c : CaseL} (h : rightC n c = true) (o : Int × Int) : rightC n (stepC n c o) = true := by
  unfold stepC
  split
  · rename_i e
    obtain ⟨k, _, hk⟩ := do_ok.1 (show doC n c o.1 o.2 = ((doC n c o.1 o.2).1, 0) from Prod.ext rfl e)
    exact hk.right2
  · exact h
theorem play_right {n : NetL} : ∀ (os : List (Int × Int)) {c : CaseL}, rightC n c = true → rightC n (playC n c os).1 = true
  | [], _, h => h
  | p :: os, c, h => by
    show rightC n (playC n (stepC n c p) os).1 = true
    exact play_right os (step_right h p)
theorem begin_right {n : NetL} {i : Int} (h : (beginC n i).2 = 0) : rightC n (beginC n i).1 = true ∧ netOk n = true ∧ 0 ≤ i ∧ i < n.places := by
  cases hn : netOk n with
  | false => rw [begin_bad hn] at h; cases h
  | true =>
    by_cases hi : 0 ≤ i ∧ i < n.places
    · rw [begin_ok hn hi]
      refine ⟨rightC_iff.2 ⟨fits_mk hn ?_ (start_right _ _), zeros_length _, zeros_right _⟩, rfl, hi⟩
      rw [start_length]
      unfold netOk headOk at hn
      simp only [Bool.and_eq_true, decide_eq_true_eq] at hn
      omega
    · rw [begin_none hn hi] at h; cases h
def playAll (n : NetL) (i : Int) (os : List (Int × Int)) : CaseL × List Int × Int :=
  if (beginC n i).2 = 0 then ((playC n (beginC n i).1 os).1, (playC n (beginC n i).1 os).2, 0) else (noCase, [], (beginC n i).2)
theorem begin_err {n : NetL} {i : Int} (h : (beginC n i).2 ≠ 0) : (beginC n i).1 = noCase := by
  unfold beginC at h ⊢
  repeat' split
  all_goals first | rfl | skip
  simp_all

end Go.Proofs.Yteohpkicbkhpjaa
