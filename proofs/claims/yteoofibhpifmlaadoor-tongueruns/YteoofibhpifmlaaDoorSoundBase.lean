/- Plain words for nets that always come to their end; van der Aalst. -/
import Derived.Test.YteoofibhpifmlaaDoorShapeBase
import Derived.Test.YteoofibhpifmlaaDoorPlain5
import Derived.Test.YteoofibhpifmlaaDoorLiveBase
namespace Go.Proofs.YteoofibhpifmlaaDoor
set_option linter.unusedVariables false
set_option maxRecDepth 4000

structure VerdL where
  kind : Int
  at_ : List Int
  tran : Int

/-- It has the end, and something beside. -/
def ExtraM (E x : List Int) : Prop := coversL x E = true ∧ x ≠ E

/-- What is told of the marks that are found. -/
structure SaysV (n : NetL) (E : List Int) (s : SpaceL) (v : VerdL) : Prop where
  extra : ∀ k, k < s.marks.length → ExtraM E (markAt s.marks k) → (∀ j, j < k → ¬ ExtraM E (markAt s.marks j)) → v = ⟨2, markAt s.marks k, 0⟩
  stuck : (∀ j, j < s.marks.length → ¬ ExtraM E (markAt s.marks j)) → ∀ k, k < s.marks.length → ¬ ReachZ n (markAt s.marks k) E → (∀ j, j < k → ReachZ n (markAt s.marks j) E) → v = ⟨3, markAt s.marks k, 0⟩
  dead : (∀ j, j < s.marks.length → ¬ ExtraM E (markAt s.marks j)) → (∀ j, j < s.marks.length → ReachZ n (markAt s.marks j) E) → ∀ t ts, deadL (toZ s) n.trans.length = t :: ts → v = ⟨4, [], t⟩
  sound : (∀ j, j < s.marks.length → ¬ ExtraM E (markAt s.marks j)) → (∀ j, j < s.marks.length → ReachZ n (markAt s.marks j) E) → deadL (toZ s) n.trans.length = [] → v = ⟨1, [], 0⟩

structure Verd (n : NetL) (i o most : Int) (v : VerdL) (e : Int) : Prop where
  wrong : ¬ ShapeOk n i o → Judged n i o e ∧ v = ⟨0, [], 0⟩
  full : ShapeOk n i o → (graphL n (startL n.places i) most).2 ≠ 0 → e = (graphL n (startL n.places i) most).2 ∧ v = ⟨0, [], 0⟩
  right : ShapeOk n i o → ∀ s, graphL n (startL n.places i) most = (s, 0) → e = 0 ∧ SaysV n (startL n.places o) s v

theorem least_no {Q : Nat → Prop} {N : Nat} (h : ¬ ∀ j, j < N → Q j) : ∃ j, j < N ∧ ¬ Q j ∧ ∀ i, i < j → Q i := by
  induction N with
  | zero => exact absurd (fun j hj => absurd hj (Nat.not_lt_zero _)) h
  | succ N ih =>
    by_cases q : ∀ j, j < N → Q j
    · refine ⟨N, by omega, fun hN => h fun j hj => ?_, q⟩
      by_cases e : j = N
      · subst e; exact hN
      · exact q j (by omega)
    · obtain ⟨j, h1, h2, h3⟩ := ih q
      exact ⟨j, by omega, h2, h3⟩

/-- One of the four is so. -/
theorem SaysV.cases {n : NetL} {E : List Int} {s : SpaceL} {v : VerdL} (h : SaysV n E s v) :
    (∃ k, k < s.marks.length ∧ ExtraM E (markAt s.marks k) ∧ (∀ j, j < k → ¬ ExtraM E (markAt s.marks j)) ∧ v = ⟨2, markAt s.marks k, 0⟩) ∨
    ((∀ j, j < s.marks.length → ¬ ExtraM E (markAt s.marks j)) ∧ ∃ k, k < s.marks.length ∧ ¬ ReachZ n (markAt s.marks k) E ∧ (∀ j, j < k → ReachZ n (markAt s.marks j) E) ∧ v = ⟨3, markAt s.marks k, 0⟩) ∨
    ((∀ j, j < s.marks.length → ¬ ExtraM E (markAt s.marks j)) ∧ (∀ j, j < s.marks.length → ReachZ n (markAt s.marks j) E) ∧ ∃ t ts, deadL (toZ s) n.trans.length = t :: ts ∧ v = ⟨4, [], t⟩) ∨
    ((∀ j, j < s.marks.length → ¬ ExtraM E (markAt s.marks j)) ∧ (∀ j, j < s.marks.length → ReachZ n (markAt s.marks j) E) ∧ deadL (toZ s) n.trans.length = [] ∧ v = ⟨1, [], 0⟩) := by
  by_cases h1 : ∀ j, j < s.marks.length → ¬ ExtraM E (markAt s.marks j)
  · right
    by_cases h2 : ∀ j, j < s.marks.length → ReachZ n (markAt s.marks j) E
    · right
      cases hd : deadL (toZ s) n.trans.length with
      | nil => exact .inr ⟨h1, h2, rfl, h.sound h1 h2 hd⟩
      | cons t ts => exact .inl ⟨h1, h2, t, ts, rfl, h.dead h1 h2 t ts hd⟩
    · obtain ⟨k, q1, q2, q3⟩ := least_no h2
      exact .inl ⟨h1, k, q1, q2, q3, h.stuck h1 k q1 q2 q3⟩
  · left
    obtain ⟨k, q1, q2, q3⟩ := least_no h1
    have q2 := Classical.not_not.1 q2
    exact ⟨k, q1, q2, q3, h.extra k q1 q2 q3⟩

theorem SaysV.unique {n : NetL} {E : List Int} {s : SpaceL} {v u : VerdL} (h : SaysV n E s v) (k : SaysV n E s u) : v = u := by
  rcases h.cases with ⟨j, a1, a2, a3, e⟩ | ⟨a1, j, a2, a3, a4, e⟩ | ⟨a1, a2, t, ts, a3, e⟩ | ⟨a1, a2, a3, e⟩
  · rw [e, k.extra j a1 a2 a3]
  · rw [e, k.stuck a1 j a2 a3 a4]
  · rw [e, k.dead a1 a2 t ts a3]
  · rw [e, k.sound a1 a2 a3]

theorem Verd.unique {n : NetL} {i o most e f : Int} {v u : VerdL} (h : Verd n i o most v e) (k : Verd n i o most u f) : v = u ∧ e = f := by
  by_cases hs : ShapeOk n i o
  · cases hg : graphL n (startL n.places i) most with
    | mk s d =>
      by_cases hd : d = 0
      · subst hd
        obtain ⟨h1, h2⟩ := h.right hs s hg
        obtain ⟨k1, k2⟩ := k.right hs s hg
        exact ⟨h2.unique k2, by rw [h1, k1]⟩
      · obtain ⟨h1, h2⟩ := h.full hs (by rw [hg]; exact hd)
        obtain ⟨k1, k2⟩ := k.full hs (by rw [hg]; exact hd)
        exact ⟨by rw [h2, k2], by rw [h1, k1]⟩
  · obtain ⟨h1, h2⟩ := h.wrong hs
    obtain ⟨k1, k2⟩ := k.wrong hs
    exact ⟨by rw [h2, k2], h1.unique k1⟩

theorem Verd.zero {n : NetL} {i o most : Int} {v : VerdL} (h : Verd n i o most v 0) : ShapeOk n i o ∧ ∃ s, graphL n (startL n.places i) most = (s, 0) ∧ SaysV n (startL n.places o) s v := by
  by_cases hs : ShapeOk n i o
  · cases hg : graphL n (startL n.places i) most with
    | mk s d =>
      by_cases hd : d = 0
      · subst hd; exact ⟨hs, s, rfl, (h.right hs s hg).2⟩
      · have := (h.full hs (by rw [hg]; exact hd)).1
        rw [hg] at this
        exact absurd this.symm hd
  · exact absurd (h.wrong hs).1.zero hs
theorem Verd.none {n : NetL} {i o most e : Int} {v : VerdL} (h : Verd n i o most v e) (he : e ≠ 0) : v = ⟨0, [], 0⟩ := by
  by_cases hs : ShapeOk n i o
  · cases hg : graphL n (startL n.places i) most with
    | mk s d =>
      by_cases hd : d = 0
      · subst hd; exact absurd (h.right hs s hg).1 he
      · exact (h.full hs (by rw [hg]; exact hd)).2
  · exact (h.wrong hs).2

/-- What is sound. -/
theorem SaysV.kind {n : NetL} {E : List Int} {s : SpaceL} {v : VerdL} (h : SaysV n E s v) : v.kind = 1 ↔ (∀ j, j < s.marks.length → ¬ ExtraM E (markAt s.marks j)) ∧ (∀ j, j < s.marks.length → ReachZ n (markAt s.marks j) E) ∧ deadL (toZ s) n.trans.length = [] := by
  constructor
  · intro hk
    rcases h.cases with ⟨j, a1, a2, a3, e⟩ | ⟨a1, j, a2, a3, a4, e⟩ | ⟨a1, a2, t, ts, a3, e⟩ | ⟨a1, a2, a3, e⟩
    · rw [e] at hk; simp at hk
    · rw [e] at hk; simp at hk
    · rw [e] at hk; simp at hk
    · exact ⟨a1, a2, a3⟩
  · rintro ⟨a1, a2, a3⟩
    rw [h.sound a1 a2 a3]

/-! ### what is within some marks is told -/
theorem graph_within {n : NetL} {m : List Int} {most : Nat} {L : List (List Int)} (hm : 1 ≤ most) (hmx : most ≤ 300) (hf : fitsL n m = true) (hL : L.length ≤ most) (hin : ∀ x, ReachZ n m x → x ∈ L) (hr : ∀ x, ReachZ n m x → rightL x = true) : ∃ u, graphL n m most = (u, 0) := by
  have hok : graphOk n m most = true := by simp [graphOk, hf]; omega
  cases hg : graphTo n m most most with
  | some u => exact ⟨u, by rw [graphL, hok]; simp only [if_true, Int.toNat_natCast]; rw [hg]⟩
  | none =>
    exfalso
    obtain ⟨f, j, sp, hj, hF, hff, ht⟩ := graph_broke hm hf _ hg
    have hfit := hF.fits _ (markAt_mem hff)
    have hz := hF.reachZ f hff
    unfold tryT at ht
    split at ht
    · cases ht
    · rename_i h3
      have hcv : coversL (markAt sp.marks f) (tranAt n.trans j).pre = true := by
        cases hc : coversL (markAt sp.marks f) (tranAt n.trans j).pre
        · refine absurd ?_ h3
          unfold fireL
          rw [hfit, Int.toNat_natCast, hc]; simp
        · rfl
      have hst : StepZ n (markAt sp.marks f) j (addL (subL (markAt sp.marks f) (tranAt n.trans j).pre) (tranAt n.trans j).post) := ⟨hj, (coversL_iff _ _).1 hcv, rfl⟩
      have e1 := fire_mk hj hfit hcv (hr _ (hz.step hst))
      rw [e1] at ht
      simp only [BEq.rfl, if_true] at ht
      split at ht
      · cases ht
      · rename_i hfn
        split at ht
        · rename_i hlen
          have hx := findM_none hfn
          have hnd : (sp.marks ++ [addL (subL (markAt sp.marks f) (tranAt n.trans j).pre) (tranAt n.trans j).post]).Nodup := by
            rw [List.nodup_append]
            exact ⟨hF.nodup, by simp, fun a ha b hb e => by rw [List.mem_singleton] at hb; subst hb; subst e; exact hx ha⟩
          have := nodup_sub (l2 := L) hnd (fun x hx => hin x (by
            rcases List.mem_append.1 hx with q | q
            · obtain ⟨i, hi, rfl⟩ := List.getElem_of_mem q
              have := hF.reachZ i hi
              rw [markAt, List.getD_eq_getElem?_getD, List.getElem?_eq_getElem hi] at this
              exact this
            · rw [List.mem_singleton] at q; subst q; exact hz.step hst))
          simp at this
          omega
        · cases ht

/-- What was found is come to, and all that. -/
theorem Whole.iff {n : NetL} {m x : List Int} {s : SpaceL} (h : Whole n m s) : ReachZ n m x ↔ ∃ g, g < s.marks.length ∧ markAt s.marks g = x := by
  refine ⟨h.has, ?_⟩
  rintro ⟨g, hg, rfl⟩
  obtain ⟨_, _, hF, _⟩ := h
  exact hF.reachZ g hg
theorem Whole.right_of {n : NetL} {m x : List Int} {s : SpaceL} (h : Whole n m s) (hr : ReachZ n m x) : fitsL n x = true := by
  obtain ⟨g, hg, rfl⟩ := h.has hr
  exact h.fits hg

/-- Where more comes of less there is no end. -/
theorem no_pump {n : NetL} {m d : List Int} {s : SpaceL} (h : Whole n m s) (hd : (d.length : Int) = n.places) (h0 : ∀ p, 0 ≤ nth d p) (hp : ∃ p, nth d p ≠ 0) (hr : ReachZ n m (addL m d)) : False := by
  have hfm := h.right_of (ReachZ.here (n := n) (a := m))
  obtain ⟨hn, hl, hrm⟩ := fits_net hfm
  have rep : ∀ k : Nat, ∃ x, ReachZ n m x ∧ (x.length : Int) = n.places ∧ ∀ p, nth x p = nth m p + k * nth d p := by
    intro k
    induction k with
    | zero => exact ⟨m, ReachZ.here, hl, fun p => by simp⟩
    | succ k ih =>
      obtain ⟨x, hx, hxl, hxp⟩ := ih
      -- k times d beside
      let kd : List Int := subL x m
      have hkl : (kd.length : Int) = n.places := by show ((subL x m).length : Int) = _; rw [sub_length]; omega
      have hk0 : ∀ p, 0 ≤ nth kd p := fun p => by
        show 0 ≤ nth (subL x m) p
        rw [sub_at, hxp p]
        have := h0 p
        have : 0 ≤ (k : Int) * nth d p := Int.mul_nonneg (by omega) this
        omega
      have q := ReachZ.more hn hr hl hkl hk0
      have e : addL m kd = x := by
        refine eq_of_at (by show (addL m (subL x m)).length = _; rw [add_length, sub_length]; omega) fun p => ?_
        show nth (addL m (subL x m)) p = _
        rw [add_at, sub_at]; omega
      rw [e] at q
      refine ⟨addL (addL m d) kd, hx.trans q, by rw [add_length, add_length]; omega, fun p => ?_⟩
      show nth (addL (addL m d) (subL x m)) p = _
      rw [add_at, add_at, sub_at, hxp p]
      have : ((k + 1 : Nat) : Int) * nth d p = (k : Int) * nth d p + nth d p := by rw [Int.natCast_add, Int.add_mul]; simp
      omega
  obtain ⟨p, hp⟩ := hp
  obtain ⟨x, hx, _, hxp⟩ := rep 1000001
  have h1 := (okTok_nth (fits_net (h.right_of hx)).2.2 p).2
  have h2 := (okTok_nth hrm p).1
  have h3 := h0 p
  have := hxp p
  omega

end Go.Proofs.YteoofibhpifmlaaDoor
