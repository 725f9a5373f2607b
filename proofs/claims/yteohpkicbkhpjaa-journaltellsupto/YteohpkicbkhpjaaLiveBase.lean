/- Plain words for what can always be done again. -/
import Derived.Test.YteohpkicbkhpjaaReachMore
import Derived.Test.YteohpkicbkhpjaaReachMem
import Derived.Test.YteohpkicbkhpjaaRanges
namespace Go.Proofs.Yteohpkicbkhpjaa
set_option linter.unusedVariables false
set_option maxRecDepth 4000

/-- Marks, and arcs between whatever numbers. -/
structure SpaceZ where
  marks : List (List Int)
  arcs : List (Int × Int × Int)

def rightS (s : SpaceZ) : Bool := s.arcs.all fun a => decide (0 ≤ a.1) && decide (a.1 < s.marks.length) && decide (0 ≤ a.2.2) && decide (a.2.2 < s.marks.length)
def Comes (s : SpaceZ) (k j : Int) : Prop := ∀ P : Int → Prop, P k → (∀ a : Int × Int × Int, P a.1 → a ∈ s.arcs → P a.2.2) → P j
theorem Comes.here {s : SpaceZ} (k : Int) : Comes s k k := fun _ h _ => h
theorem Comes.go {s : SpaceZ} {k : Int} {a : Int × Int × Int} (h : Comes s k a.1) (ha : a ∈ s.arcs) : Comes s k a.2.2 := fun P h0 h1 => h1 a (h P h0 h1) ha
theorem Comes.ind {s : SpaceZ} {k : Int} {motive : (j : Int) → Comes s k j → Prop} (here : motive k (Comes.here k)) (go : ∀ {a : Int × Int × Int} (h : Comes s k a.1) (ha : a ∈ s.arcs), motive a.1 h → motive a.2.2 (Comes.go h ha)) {j : Int} (h : Comes s k j) : motive j h := by
  obtain ⟨h', q⟩ := h (fun j => ∃ h : Comes s k j, motive j h) ⟨Comes.here k, here⟩ (fun a ⟨hx, qx⟩ ha => ⟨Comes.go hx ha, go hx ha qx⟩)
  exact q
def deadL (s : SpaceZ) (T : Int) : List Int := (rangeL (min T 24).toNat).filter fun t => s.arcs.all fun a => a.2.1 != t
def stuckL (s : SpaceZ) : List Int := (rangeL s.marks.length).filter fun k => s.arcs.all fun a => a.1 != k
def boundM (n : Int) (m : List Int) : Int := if rightL m then m.foldl max n else n
def boundL (s : SpaceZ) : Int := s.marks.foldl boundM 0
structure IsLive (s : SpaceZ) (T : Int) (xs : List Int) : Prop where
  up : xs.Pairwise (· < ·)
  mem : ∀ t, t ∈ xs ↔ rightS s = true ∧ 0 ≤ t ∧ t < min T 24 ∧ ∀ k : Int, 0 ≤ k → k < s.marks.length → ∃ a ∈ s.arcs, a.2.1 = t ∧ Comes s k a.1
structure IsHome (s : SpaceZ) (xs : List Int) : Prop where
  up : xs.Pairwise (· < ·)
  mem : ∀ k, k ∈ xs ↔ rightS s = true ∧ 0 ≤ k ∧ k < s.marks.length ∧ ∀ i : Int, 0 ≤ i → i < s.marks.length → Comes s i k

theorem rightS_iff {s : SpaceZ} : rightS s = true ↔ ∀ a ∈ s.arcs, 0 ≤ a.1 ∧ a.1 < s.marks.length ∧ 0 ≤ a.2.2 ∧ a.2.2 < s.marks.length := by
  unfold rightS
  simp only [List.all_eq_true, Bool.and_eq_true, decide_eq_true_eq, and_assoc]
theorem mem_dead {s : SpaceZ} {T t : Int} : t ∈ deadL s T ↔ 0 ≤ t ∧ t < min T 24 ∧ ∀ a ∈ s.arcs, a.2.1 ≠ t := by
  unfold deadL
  rw [List.mem_filter, mem_range]
  simp only [List.all_eq_true, bne_iff_ne]
  constructor
  · rintro ⟨h1, h2⟩; exact ⟨by omega, by omega, h2⟩
  · rintro ⟨h1, h2, h3⟩; exact ⟨by omega, h3⟩
theorem mem_stuck {s : SpaceZ} {k : Int} : k ∈ stuckL s ↔ 0 ≤ k ∧ k < s.marks.length ∧ ∀ a ∈ s.arcs, a.1 ≠ k := by
  unfold stuckL
  rw [List.mem_filter, mem_range]
  simp only [List.all_eq_true, bne_iff_ne, and_assoc]
theorem dead_up (s : SpaceZ) (T : Int) : (deadL s T).Pairwise (· < ·) := (range_sorted _).sublist List.filter_sublist
theorem stuck_up (s : SpaceZ) : (stuckL s).Pairwise (· < ·) := (range_sorted _).sublist List.filter_sublist

/-- Who is stuck goes nowhere. -/
theorem stuck_only {s : SpaceZ} {k j : Int} (h : k ∈ stuckL s) (hc : Comes s k j) : j = k := by
  induction hc using Comes.ind with
  | here => rfl
  | go h1 h2 ih => exact absurd ih ((mem_stuck.1 h).2.2 _ h2)

theorem up_one {xs : List Int} {k : Int} (hx : xs.Pairwise (· < ·)) (h : ∀ t, t ∈ xs ↔ t = k) : xs = [k] :=
  up_unique hx (List.pairwise_singleton _ _) fun t => by rw [h]; simp
theorem up_none {xs : List Int} (h : ∀ t, ¬ t ∈ xs) : xs = [] := List.eq_nil_iff_forall_not_mem.2 h

theorem stuck_live {s : SpaceZ} {T k : Int} {xs : List Int} (hk : k ∈ stuckL s) (h : IsLive s T xs) : xs = [] := by
  refine up_none fun t ht => ?_
  obtain ⟨_, _, _, hall⟩ := (h.mem t).1 ht
  obtain ⟨h1, h2, h3⟩ := mem_stuck.1 hk
  obtain ⟨a, ha, _, hc⟩ := hall k h1 h2
  exact h3 a ha (stuck_only hk hc)
theorem stuck_home {s : SpaceZ} {k : Int} {hs : List Int} (hk : k ∈ stuckL s) (h : IsHome s hs) (hh : k ∈ hs) : hs = [k] ∧ stuckL s = [k] := by
  obtain ⟨_, k1, k2, hall⟩ := (h.mem k).1 hh
  constructor
  · refine up_one h.up fun t => ⟨fun ht => ?_, fun e => by rw [e]; exact hh⟩
    obtain ⟨_, _, _, ht4⟩ := (h.mem t).1 ht
    exact stuck_only hk (ht4 k k1 k2)
  · refine up_one (stuck_up s) fun t => ⟨fun ht => ?_, fun e => by rw [e]; exact hk⟩
    obtain ⟨t1, t2, _⟩ := mem_stuck.1 ht
    exact (stuck_only ht (hall t t1 t2)).symm
theorem wrong_live {s : SpaceZ} {T : Int} {xs : List Int} (hr : rightS s = false) (h : IsLive s T xs) : xs = [] :=
  up_none fun t ht => by have := ((h.mem t).1 ht).1; rw [hr] at this; cases this
theorem wrong_home {s : SpaceZ} {xs : List Int} (hr : rightS s = false) (h : IsHome s xs) : xs = [] :=
  up_none fun t ht => by have := ((h.mem t).1 ht).1; rw [hr] at this; cases this

/-! ### spaces that are found -/
def toZ (s : SpaceL) : SpaceZ := ⟨s.marks, s.arcs.map arcZ⟩

theorem mem_arcZ {s : SpaceL} {a : Int × Int × Int} : a ∈ (toZ s).arcs ↔ ∃ b ∈ s.arcs, a = arcZ b := by
  unfold toZ
  simp only [List.mem_map]
  constructor
  · rintro ⟨b, h1, h2⟩; exact ⟨b, h1, h2.symm⟩
  · rintro ⟨b, h1, h2⟩; exact ⟨b, h1, h2.symm⟩

theorem Whole.sound {n : NetL} {m : List Int} {s : SpaceL} (h : Whole n m s) : ∀ a ∈ s.arcs, a.frm < s.marks.length ∧ a.dst < s.marks.length ∧ a.tran < n.trans.length ∧ fireL n (markAt s.marks a.frm) a.tran = (markAt s.marks a.dst, 0) := by
  obtain ⟨most, k, hF, hk⟩ := h
  intro a ha
  obtain ⟨h1, h2, h3, _, h5⟩ := hF.sound a ha
  exact ⟨h1, h2, h3, h5⟩
theorem Whole.right {n : NetL} {m : List Int} {s : SpaceL} (h : Whole n m s) : rightS (toZ s) = true := by
  refine rightS_iff.2 fun a ha => ?_
  obtain ⟨b, hb, rfl⟩ := mem_arcZ.1 ha
  obtain ⟨h1, h2, _⟩ := h.sound b hb
  simp only [arcZ, toZ]
  omega

/-- One comes by arcs just where a run leads. -/
theorem Whole.comes_run {n : NetL} {m : List Int} {s : SpaceL} (h : Whole n m s) {i : Nat} (hi : i < s.marks.length) {y : Int} (hc : Comes (toZ s) i y) :
    ∃ j : Nat, y = j ∧ j < s.marks.length ∧ ∃ seq, runL n (markAt s.marks i) seq = (markAt s.marks j, 0) := by
  have hfit : ∀ g, g < s.marks.length → fitsL n (markAt s.marks g) = true := by obtain ⟨most, k, hF, hk⟩ := h; exact fun g hg => hF.fits _ (markAt_mem hg)
  have key : ∀ {x y : Int}, Comes (toZ s) x y → x = (i : Int) → ∃ j : Nat, y = j ∧ j < s.marks.length ∧ ∃ seq, runL n (markAt s.marks i) seq = (markAt s.marks j, 0) := by
    intro x y hc
    induction hc using Comes.ind with
    | here => intro e; subst e; exact ⟨i, rfl, hi, [], run_nil.2 ⟨hfit i hi, rfl⟩⟩
    | go h1 h2 ih =>
      intro e
      obtain ⟨j, ej, hj, seq, hs⟩ := ih e
      obtain ⟨b, hb, rfl⟩ := mem_arcZ.1 h2
      obtain ⟨b1, b2, b3, b4⟩ := h.sound b hb
      simp only [arcZ] at ej ⊢
      obtain rfl : b.frm = j := by omega
      refine ⟨b.dst, rfl, b2, seq ++ [(b.tran : Int)], ?_⟩
      rw [run_append, hs]
      simp only [BEq.rfl, if_true]
      exact run_cons.2 ⟨_, b4, run_nil.2 ⟨hfit _ b2, rfl⟩⟩
  exact key hc rfl
theorem Whole.run_comes {n : NetL} {m : List Int} {s : SpaceL} (h : Whole n m s) (seq : List Int) : ∀ {i k : Nat} {z : List Int}, i < s.marks.length → Comes (toZ s) k i → runL n (markAt s.marks i) seq = (z, 0) →
    (∃ j : Nat, j < s.marks.length ∧ z = markAt s.marks j ∧ Comes (toZ s) k j) ∧ ∀ t ∈ seq, ∃ a ∈ s.arcs, (a.tran : Int) = t ∧ Comes (toZ s) k a.frm := by
  induction seq with
  | nil =>
    intro i k z hi hc hr
    obtain ⟨_, rfl⟩ := run_nil.1 hr
    exact ⟨⟨i, hi, rfl, hc⟩, by simp⟩
  | cons t ts ih =>
    intro i k z hi hc hr
    obtain ⟨y, h1, h2⟩ := run_cons.1 hr
    rcases h.fire hi t with h3 | ⟨j, g, rfl, hg, hgl, e⟩
    · rw [h1] at h3; simp at h3
    · rw [e] at h1
      injection h1 with h1 _
      subst h1
      have hc2 : Comes (toZ s) k g := Comes.go (a := arcZ ⟨i, j, g⟩) hc (mem_arcZ.2 ⟨_, hg, rfl⟩)
      obtain ⟨q1, q2⟩ := ih hgl hc2 h2
      refine ⟨q1, fun t' ht' => ?_⟩
      rcases List.mem_cons.1 ht' with q | q
      · exact ⟨_, hg, q.symm, hc⟩
      · exact q2 t' q

/-- From each of the marks all marks are found again, where there is room. -/
theorem Whole.again {n : NetL} {m : List Int} {s : SpaceL} (h : Whole n m s) (hl : s.marks.length < 300) {f : Nat} (hf : f < s.marks.length) : ∃ u, graphL n (markAt s.marks f) 300 = (u, 0) := by
  have hfit : fitsL n (markAt s.marks f) = true := by obtain ⟨most, k, hF, hk⟩ := h; exact hF.fits _ (markAt_mem hf)
  have hok := graphOk_300 hfit
  cases hg : graphTo n (markAt s.marks f) 300 300 with
  | some u => exact ⟨u, by rw [graphL, hok]; simp only [if_true, show (300 : Int).toNat = 300 from rfl]; rw [hg]⟩
  | none =>
    exfalso
    obtain ⟨f', j, s', hj, hF, hf', hn⟩ := graph_broke (by omega) hfit _ hg
    have hin : ∀ g, g < s'.marks.length → ∃ g2, g2 < s.marks.length ∧ markAt s'.marks g = markAt s.marks g2 := by
      intro g
      induction g using Nat.strongRecOn with
      | ind g ih =>
        intro hgl
        by_cases e : g = 0
        · subst e; exact ⟨f, hf, hF.first⟩
        · obtain ⟨a, ha, hlt⟩ := hF.par g (by omega) hgl
          obtain ⟨h1, h2⟩ := firstTo_mem ha
          obtain ⟨q1, q2, q3, q4, q5⟩ := hF.sound a h1
          obtain ⟨g2, hg2, e2⟩ := ih a.frm hlt q1
          rw [e2, h2] at q5
          rcases h.fire hg2 a.tran with r | ⟨_, g3, _, _, hg3, e3⟩
          · rw [q5] at r; simp at r
          · rw [q5] at e3; injection e3 with e3 _; exact ⟨g3, hg3, e3⟩
    have hlen : s'.marks.length ≤ s.marks.length := nodup_sub hF.nodup fun x hx => by
      obtain ⟨g, hgl, rfl⟩ := List.getElem_of_mem hx
      obtain ⟨g2, hg2, e2⟩ := hin g hgl
      have e3 : s'.marks[g] = markAt s'.marks g := by simp [markAt, List.getD_eq_getElem?_getD, List.getElem?_eq_getElem hgl]
      rw [e3, e2]
      exact markAt_mem hg2
    obtain ⟨g2, hg2, e2⟩ := hin f' hf'
    rcases h.fire hg2 j with r | ⟨_, g3, _, _, hg3, e3⟩
    · unfold tryT at hn
      rw [e2, r] at hn
      simp at hn
    · unfold tryT at hn
      rw [e2, e3] at hn
      simp only [show ((0 : Int) == 3) = false from rfl, Bool.false_eq_true, if_false, BEq.rfl, if_true] at hn
      split at hn
      · cases hn
      · rw [if_neg (by omega)] at hn
        cases hn

end Go.Proofs.Yteohpkicbkhpjaa
