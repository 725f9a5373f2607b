/- Van der Aalst: a net is sound just if, closed, it has a bound and all its transitions are live. -/
import Derived.Test.YteoofibhpifmlaaDoorSoundBase
namespace Go.Proofs.YteoofibhpifmlaaDoor
set_option linter.unusedVariables false
set_option maxRecDepth 4000

theorem stepC {n : NetL} {i o : Int} {x y : List Int} {t : Nat} (h : StepZ (closeL n i o) x t y) : StepZ n x t y ∨ (t = n.trans.length ∧ (∀ p, nth (startL n.places o) p ≤ nth x p) ∧ y = addL (subL x (startL n.places o)) (startL n.places i)) := by
  obtain ⟨ht, hc, e⟩ := h
  rw [close_count] at ht
  by_cases q : t < n.trans.length
  · rw [close_at n i o q] at hc e
    exact .inl ⟨q, hc, e⟩
  · have : t = n.trans.length := by omega
    subst this
    rw [close_last] at hc e
    exact .inr ⟨rfl, hc, e⟩
theorem stepC_of {n : NetL} {i o : Int} {x y : List Int} {t : Nat} (h : StepZ n x t y) : StepZ (closeL n i o) x t y := by
  obtain ⟨ht, hc, e⟩ := h
  exact ⟨by rw [close_count]; omega, by rw [close_at n i o ht]; exact hc, by rw [close_at n i o ht]; exact e⟩
theorem stepC_last {n : NetL} {i o : Int} {x : List Int} (h : ∀ p, nth (startL n.places o) p ≤ nth x p) : StepZ (closeL n i o) x n.trans.length (addL (subL x (startL n.places o)) (startL n.places i)) :=
  ⟨by rw [close_count]; omega, by rw [close_last]; exact h, by rw [close_last]⟩
theorem round_same2 (P i o : Int) : addL (subL (startL P o) (startL P o)) (startL P i) = startL P i := by
  refine eq_of_at ?_ fun j => ?_
  · rw [add_length, sub_length]
    simp only [start_length]
    omega
  · rw [add_at, sub_at]; omega
theorem stepC_end (n : NetL) (i o : Int) : StepZ (closeL n i o) (startL n.places o) n.trans.length (startL n.places i) := by
  have h := stepC_last (n := n) (i := i) (o := o) (x := startL n.places o) fun _ => Int.le_refl _
  rwa [round_same2] at h
theorem reachC {n : NetL} {i o : Int} {a b : List Int} (h : ReachZ n a b) : ReachZ (closeL n i o) a b := by
  induction h using ReachZ.ind with
  | here => exact .here
  | step _ hs ih => exact ih.step (stepC_of hs)

/-- Where nothing has anything beside the end, what covers it is it. -/
theorem only_end {E x : List Int} (h : ¬ ExtraM E x) (hc : ∀ p, nth E p ≤ nth x p) : x = E := by
  by_cases e : x = E
  · exact e
  · exact absurd ⟨(coversL_iff _ _).2 hc, e⟩ h
theorem reachC_in {n : NetL} {i o : Int} {x : List Int} (hx : ∀ x, ReachZ n (startL n.places i) x → ¬ ExtraM (startL n.places o) x) (h : ReachZ (closeL n i o) (startL n.places i) x) : ReachZ n (startL n.places i) x := by
  induction h using ReachZ.ind with
  | here => exact .here
  | step _ hs ih =>
    rcases stepC hs with q | ⟨_, hc, rfl⟩
    · exact ih.step q
    · rw [only_end (hx _ ih) hc, round_same2]
      exact .here
theorem reachC_end {n : NetL} {i o : Int} {x y : List Int} (hx : ∀ x, ReachZ n (startL n.places i) x → ¬ ExtraM (startL n.places o) x) (h0 : ReachZ n (startL n.places i) x) (h : ReachZ (closeL n i o) x y) : ReachZ n x y ∨ ReachZ n x (startL n.places o) := by
  induction h using ReachZ.ind with
  | here => exact .inl .here
  | step _ hs ih =>
    rcases ih with ih | ih
    · rcases stepC hs with q | ⟨_, hc, rfl⟩
      · exact .inl (ih.step q)
      · right
        rw [← only_end (hx _ (h0.trans ih)) hc]
        exact ih
    · exact .inr ih

theorem Whole.reach_comes {n : NetL} {m y : List Int} {s : SpaceL} (h : Whole n m s) {f : Nat} (hf : f < s.marks.length) (hr : ReachZ n (markAt s.marks f) y) : ∃ g : Nat, g < s.marks.length ∧ markAt s.marks g = y ∧ Comes (toZ s) f g := by
  induction hr using ReachZ.ind with
  | here => exact ⟨f, hf, rfl, Comes.here _⟩
  | @step x y t _ hs ih =>
    obtain ⟨g, hg, rfl, hc⟩ := ih
    obtain ⟨ht, hcv, rfl⟩ := hs
    rcases h.fire hg t with q | ⟨j, g2, e, ha, hg2, e2⟩
    · exact absurd q (fire_code (h.fits hg) ht hcv)
    · obtain ⟨j', e3, _, _, _, _, e4⟩ := fire_ok e2
      have : j' = t := by omega
      subst this
      have hz : ((g : Int), (j : Int), (g2 : Int)) ∈ (toZ s).arcs := mem_arcZ.2 ⟨_, ha, rfl⟩
      exact ⟨g2, hg2, e4, Comes.go (a := ((g : Int), (j : Int), (g2 : Int))) hc hz⟩
theorem Whole.comes_reach {n : NetL} {m : List Int} {s : SpaceL} (h : Whole n m s) {f : Nat} (hf : f < s.marks.length) {y : Int} (hc : Comes (toZ s) f y) : ∃ g : Nat, y = g ∧ g < s.marks.length ∧ ReachZ n (markAt s.marks f) (markAt s.marks g) := by
  obtain ⟨j, e, hj, seq, hs⟩ := h.comes_run hf hc
  exact ⟨j, e, hj, run_reachZ seq hs⟩
/-- Who can fire has an arc. -/
theorem Whole.has_arc {n : NetL} {m : List Int} {s : SpaceL} (h : Whole n m s) {f t : Nat} (hf : f < s.marks.length) (ht : t < n.trans.length) (hc : ∀ p, nth (tranAt n.trans t).pre p ≤ nth (markAt s.marks f) p) : ∃ a ∈ (toZ s).arcs, a.2.1 = t ∧ a.1 = f := by
  rcases h.fire hf t with q | ⟨j, g2, e, ha, hg2, e2⟩
  · exact absurd q (fire_code (h.fits hf) ht hc)
  · exact ⟨((f : Int), (j : Int), (g2 : Int)), mem_arcZ.2 ⟨_, ha, rfl⟩, e.symm, rfl⟩
theorem Whole.arc_can {n : NetL} {m : List Int} {s : SpaceL} (h : Whole n m s) {a : Int × Int × Int} (ha : a ∈ (toZ s).arcs) : ∃ f t : Nat, a.1 = f ∧ a.2.1 = t ∧ f < s.marks.length ∧ t < n.trans.length ∧ ∀ p, nth (tranAt n.trans t).pre p ≤ nth (markAt s.marks f) p := by
  obtain ⟨b, hb, rfl⟩ := mem_arcZ.1 ha
  obtain ⟨h1, h2, h3, h4⟩ := h.sound b hb
  obtain ⟨k, e, _, _, hc, _⟩ := fire_ok h4
  have : k = b.tran := by omega
  subst this
  exact ⟨b.frm, b.tran, rfl, rfl, h1, h3, (coversL_iff _ _).1 hc⟩

theorem range_all {N : Nat} {xs : List Int} (hu : xs.Pairwise (· < ·)) (hin : ∀ t ∈ xs, 0 ≤ t ∧ t < N) : xs.length = N ↔ ∀ t : Nat, t < N → (t : Int) ∈ xs := by
  have e : xs = (rangeL N).filter fun t => xs.contains t := by
    refine up_unique hu ((range_sorted N).sublist List.filter_sublist) fun t => ?_
    rw [List.mem_filter, mem_range, List.contains_iff_mem]
    exact ⟨fun h => ⟨hin t h, h⟩, fun h => h.2⟩
  have hl : (rangeL N).length = N := by simp [rangeL]
  constructor
  · intro h t ht
    have : (rangeL N).filter (fun t => xs.contains t) = rangeL N := List.filter_sublist.eq_of_length (by rw [← e, hl]; exact h)
    have hm : (t : Int) ∈ rangeL N := mem_range.2 (by omega)
    rw [← this, List.mem_filter, List.contains_iff_mem] at hm
    exact hm.2
  · intro h
    have : (rangeL N).filter (fun t => xs.contains t) = rangeL N := by
      rw [List.filter_eq_self]
      intro t ht
      rw [List.contains_iff_mem]
      obtain ⟨h1, h2⟩ := mem_range.1 ht
      obtain ⟨k, rfl⟩ := Int.eq_ofNat_of_zero_le h1
      exact h k (by omega)
    rw [e, this, hl]

section
variable {n : NetL} {i o most : Int} {s : SpaceL} {v : VerdL}

theorem mark_len (h : Whole n (startL n.places i) s) {j : Nat} (hj : j < s.marks.length) : ((markAt s.marks j).length : Int) = n.places := (fits_net (h.fits hj)).2.1

/-- What is sound has, closed, as many marks. -/
theorem close_graph (hS : ShapeOk n i o) (hl : n.trans.length < 24) (hg : graphL n (startL n.places i) most = (s, 0)) (hv : SaysV n (startL n.places o) s v) (hk : v.kind = 1) : ∃ u, graphL (closeL n i o) (startL n.places i) 300 = (u, 0) := by
  obtain ⟨h1, h2, h3⟩ := hv.kind.1 hk
  have hW := graphL_whole hg
  obtain ⟨m1, m2, _, _, hF⟩ := graphL_ok hg
  have hx : ∀ x, ReachZ n (startL n.places i) x → ¬ ExtraM (startL n.places o) x := fun x hr => by
    obtain ⟨g, hgl, rfl⟩ := hW.has hr
    exact h1 g hgl
  have hfit : fitsL (closeL n i o) (startL n.places i) = true := by rw [close_fits hS.ok hl]; exact start_fits hS.ok i
  have := graph_within (n := closeL n i o) (m := startL n.places i) (most := 300) (L := s.marks) (by omega) (by omega) hfit (by have := hF.most_le; omega) (fun x hr => by
    obtain ⟨g, hgl, rfl⟩ := hW.has (reachC_in hx hr)
    exact markAt_mem hgl) (fun x hr => (fits_net (hW.right_of (reachC_in hx hr))).2.2)
  exact this

/-- Van der Aalst. -/
theorem close_live {u : SpaceL} {xs : List Int} (hS : ShapeOk n i o) (hl : n.trans.length < 24) (hg : graphL n (startL n.places i) most = (s, 0)) (hv : SaysV n (startL n.places o) s v) (hu : graphL (closeL n i o) (startL n.places i) 300 = (u, 0))
    (hL : IsLive (toZ u) ((n.trans.length + 1 : Nat) : Int) xs) : v.kind = 1 ↔ xs.length = n.trans.length + 1 := by
  have hW := graphL_whole hg
  have hC := graphL_whole hu
  have hok := close_ok hS.ok hl i o
  have hin : ∀ t ∈ xs, 0 ≤ t ∧ t < ((n.trans.length + 1 : Nat) : Int) := fun t ht => by
    obtain ⟨_, q1, q2, _⟩ := (hL.mem t).1 ht
    omega
  rw [range_all hL.up hin, hv.kind]
  constructor
  · rintro ⟨h1, h2, h3⟩ t ht
    have hx : ∀ x, ReachZ n (startL n.places i) x → ¬ ExtraM (startL n.places o) x := fun x hr => by
      obtain ⟨g, hgl, rfl⟩ := hW.has hr
      exact h1 g hgl
    refine (hL.mem t).2 ⟨hC.right, by omega, by omega, fun k hk0 hk => ?_⟩
    obtain ⟨k, rfl⟩ := Int.eq_ofNat_of_zero_le hk0
    have hk : k < u.marks.length := by
      have : (k : Int) < (u.marks.length : Int) := hk
      omega
    have r0 : ReachZ n (startL n.places i) (markAt u.marks k) := reachC_in hx (hC.iff.2 ⟨k, hk, rfl⟩)
    obtain ⟨g, hgl, eg⟩ := hW.has r0
    have r1 : ReachZ (closeL n i o) (markAt u.marks k) (startL n.places o) := by
      have := h2 g hgl
      rw [eg] at this
      exact reachC this
    by_cases hT : t = n.trans.length
    · obtain ⟨e, he, ee, hc⟩ := hC.reach_comes hk r1
      obtain ⟨a, ha, a1, a2⟩ := hC.has_arc (t := n.trans.length) he (by rw [close_count]; omega) (fun p => by rw [close_last, ee]; exact Int.le_refl _)
      exact ⟨a, ha, by rw [a1, hT], by rw [a2]; exact hc⟩
    · have hnd : ¬ (t : Int) ∈ deadL (toZ s) n.trans.length := by rw [h3]; simp
      have : ∃ a ∈ (toZ s).arcs, a.2.1 = (t : Int) := by
        refine Classical.byContradiction fun q => hnd (mem_dead.2 ⟨by omega, by omega, fun a ha e => q ⟨a, ha, e⟩⟩)
      obtain ⟨a, ha, ea⟩ := this
      obtain ⟨f, t', e1, e2, hf, ht', hcv⟩ := hW.arc_can ha
      have : t' = t := by omega
      subst this
      have r2 : ReachZ (closeL n i o) (markAt u.marks k) (markAt s.marks f) := (r1.step (stepC_end n i o)).trans (reachC (hW.iff.2 ⟨f, hf, rfl⟩))
      obtain ⟨e, he, ee, hc⟩ := hC.reach_comes hk r2
      obtain ⟨b, hb, b1, b2⟩ := hC.has_arc (t := t') he (by rw [close_count]; omega) (fun p => by rw [close_at n i o ht', ee]; exact hcv p)
      exact ⟨b, hb, b1, by rw [b2]; exact hc⟩
  · intro hall
    have live : ∀ t : Nat, t < n.trans.length + 1 → ∀ k : Nat, k < u.marks.length → ∃ (f : Nat), f < u.marks.length ∧ ReachZ (closeL n i o) (markAt u.marks k) (markAt u.marks f) ∧ ∀ p, nth (tranAt (closeL n i o).trans t).pre p ≤ nth (markAt u.marks f) p := by
      intro t ht k hk
      obtain ⟨_, _, _, q⟩ := (hL.mem t).1 (hall t ht)
      obtain ⟨a, ha, e1, hc⟩ := q k (by omega) (by show (k : Int) < (u.marks.length : Int); omega)
      obtain ⟨f, t', e2, e3, hf, ht', hcv⟩ := hC.arc_can ha
      have : t' = t := by omega
      subst this
      obtain ⟨g, eg, hgl, hr⟩ := hC.comes_reach hk hc
      have : g = f := by omega
      subst this
      exact ⟨g, hgl, hr, hcv⟩
    have h1 : ∀ x, ReachZ n (startL n.places i) x → ¬ ExtraM (startL n.places o) x := by
      intro x hr hx
      obtain ⟨hcv, hne⟩ := hx
      have hcv := (coversL_iff _ _).1 hcv
      have hxl : (x.length : Int) = n.places := hr.length hS.ok (start_len hS.ok i)
      have hel := start_len hS.ok o
      have hsl := start_len hS.ok i
      have r : ReachZ (closeL n i o) (startL n.places i) (addL (startL n.places i) (subL x (startL n.places o))) := by
        have := (reachC (i := i) (o := o) hr).step (stepC_last hcv)
        have e : addL (subL x (startL n.places o)) (startL n.places i) = addL (startL n.places i) (subL x (startL n.places o)) := by
          refine eq_of_at (by rw [add_length, add_length]; omega) fun p => ?_
          rw [add_at, add_at]; omega
        rwa [e] at this
      refine no_pump hC (by show ((subL x (startL n.places o)).length : Int) = n.places; rw [sub_length]; omega) (fun p => by rw [sub_at]; have := hcv p; omega) ?_ r
      refine Classical.byContradiction fun q => hne (eq_of_at (by omega) fun p => ?_)
      have : nth (subL x (startL n.places o)) p = 0 := Classical.byContradiction fun z => q ⟨p, z⟩
      rw [sub_at] at this
      omega
    have inN : ∀ f, f < u.marks.length → ReachZ n (startL n.places i) (markAt u.marks f) := fun f hf => reachC_in h1 (hC.iff.2 ⟨f, hf, rfl⟩)
    refine ⟨fun j hj => h1 _ (hW.iff.2 ⟨j, hj, rfl⟩), fun j hj => ?_, ?_⟩
    · have r0 : ReachZ n (startL n.places i) (markAt s.marks j) := hW.iff.2 ⟨j, hj, rfl⟩
      obtain ⟨k, hk, ek⟩ := hC.has (reachC r0)
      obtain ⟨f, hf, hr, hcv⟩ := live n.trans.length (by omega) k hk
      rw [close_last] at hcv
      have e := only_end (h1 _ (inN f hf)) hcv
      rw [ek, e] at hr
      rcases reachC_end h1 r0 hr with q | q
      · exact q
      · exact q
    · rw [List.eq_nil_iff_forall_not_mem]
      intro t ht
      obtain ⟨q1, q2, q3⟩ := mem_dead.1 ht
      obtain ⟨t, rfl⟩ := Int.eq_ofNat_of_zero_le q1
      have htT : t < n.trans.length := by omega
      obtain ⟨f, hf, hr, hcv⟩ := live t (by omega) 0 hC.here.1
      rw [close_at n i o htT] at hcv
      obtain ⟨g, hgl, eg⟩ := hW.has (inN f hf)
      rw [← eg] at hcv
      obtain ⟨a, ha, a1, _⟩ := hW.has_arc hgl htT hcv
      exact q3 a ha a1

end

end Go.Proofs.YteoofibhpifmlaaDoor
