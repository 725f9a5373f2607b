/- Stops of ways, plainly: where a way goes on, and what is met on ways from a stop. -/
import Derived.Test.YteoofibhpifmlaaDoorShapeBase
namespace Go.Proofs.YteoofibhpifmlaaDoor
set_option linter.unusedVariables false
set_option maxRecDepth 4000

/-- A transition (true), or a place. -/
abbrev Stop := Bool × Nat

/-- A stop of a net. -/
def FitS (n : NetL) (s : Stop) : Prop := if s.1 then s.2 < n.trans.length else (s.2 : Int) < n.places

/-- Those below k that q tells of. -/
def somes (b : Bool) (q : Nat → Bool) (k : Nat) : List Stop := ((List.range k).filter q).map fun j => (b, j)
theorem somes_yes (b : Bool) (q : Nat → Bool) (k : Nat) (h : q k = true) : somes b q (k + 1) = somes b q k ++ [(b, k)] := by
  simp [somes, List.range_succ, List.filter_append, h]
theorem somes_no (b : Bool) (q : Nat → Bool) (k : Nat) (h : q k = false) : somes b q (k + 1) = somes b q k := by
  simp [somes, List.range_succ, List.filter_append, h]
theorem somes_le (b : Bool) (q : Nat → Bool) (k : Nat) : (somes b q k).length ≤ k := by
  simp only [somes, List.length_map]
  exact Nat.le_trans (List.length_filter_le _ _) (by simp)
theorem mem_somes {b : Bool} {q : Nat → Bool} {k : Nat} {s : Stop} : s ∈ somes b q k ↔ s.1 = b ∧ s.2 < k ∧ q s.2 = true := by
  obtain ⟨c, j⟩ := s
  simp only [somes, List.mem_map, List.mem_filter, List.mem_range, Prod.mk.injEq]
  constructor
  · rintro ⟨x, ⟨h1, h2⟩, h3, h4⟩
    subst h4
    exact ⟨h3.symm, h1, h2⟩
  · rintro ⟨h1, h2, h3⟩
    exact ⟨j, ⟨h2, h3⟩, h1.symm, rfl⟩

def putsAt (n : NetL) (k p : Nat) : Bool := decide (0 < nth (tranAt n.trans k).post p)
def takesAt (n : NetL) (p k : Nat) : Bool := decide (0 < nth (tranAt n.trans k).pre p)

/-- Where a way can go on from a stop. -/
def behindL (n : NetL) (s : Stop) : List Stop :=
  if s.1 then somes false (putsAt n s.2) (tranAt n.trans s.2).post.length else somes true (takesAt n s.2) n.trans.length

theorem behind_fits {n : NetL} (hn : netOk n = true) {s t : Stop} (hs : FitS n s) (h : t ∈ behindL n s) : FitS n t := by
  obtain ⟨b, k⟩ := s
  cases b with
  | true =>
    have hk : k < n.trans.length := hs
    have h := mem_somes.1 (show t ∈ somes false _ _ from h)
    obtain ⟨c, j⟩ := t
    obtain ⟨rfl, h2, _⟩ := h
    have hl := (tran_length hn hk).2
    show (j : Int) < n.places
    have h2 : j < (tranAt n.trans k).post.length := h2
    omega
  | false =>
    have h := mem_somes.1 (show t ∈ somes true _ _ from h)
    obtain ⟨c, j⟩ := t
    obtain ⟨rfl, h2, _⟩ := h
    exact h2

theorem behind_le {n : NetL} (hn : netOk n = true) {s : Stop} (hs : FitS n s) : (behindL n s).length ≤ 24 := by
  obtain ⟨b, k⟩ := s
  obtain ⟨h0, h1, h2⟩ := head_of hn
  cases b with
  | true =>
    have hk : k < n.trans.length := hs
    have hl := (tran_length hn hk).2
    have := somes_le false (putsAt n k) (tranAt n.trans k).post.length
    show (somes false (putsAt n k) (tranAt n.trans k).post.length).length ≤ 24
    omega
  | false =>
    have := somes_le true (takesAt n k) n.trans.length
    show (somes true (takesAt n k) n.trans.length).length ≤ 24
    omega

/-- What is on ways from a stop. -/
def OnWay (n : NetL) (s t : Stop) : Prop := ∀ Q : Stop → Prop, Q s → (∀ a b, Q a → b ∈ behindL n a → Q b) → Q t
theorem OnWay.here (n : NetL) (s : Stop) : OnWay n s s := fun Q h _ => h
theorem OnWay.step {n : NetL} {s a b : Stop} (h : OnWay n s a) (hb : b ∈ behindL n a) : OnWay n s b := fun Q q1 q2 => q2 a b (h Q q1 q2) hb
theorem OnWay.first {n : NetL} {s a b : Stop} (hb : a ∈ behindL n s) (h : OnWay n a b) : OnWay n s b := h (fun x => OnWay n s x) ((OnWay.here n s).step hb) fun _ _ q e => q.step e
theorem OnWay.fits {n : NetL} (hn : netOk n = true) {s t : Stop} (hs : FitS n s) (h : OnWay n s t) : FitS n t := h (FitS n) hs fun _ _ q e => behind_fits hn q e

/-- What has been met has become more: what is new is on ways from stops of S, and all behind it has been met. -/
structure Went (n : NetL) (S : Stop → Prop) (vs vs' : List Stop) : Prop where
  sub : ∀ x ∈ vs, x ∈ vs'
  new : ∀ x ∈ vs', x ∈ vs ∨ S x
  shut : ∀ x ∈ vs', x ∉ vs → ∀ y ∈ behindL n x, y ∈ vs'

theorem Went.refl (n : NetL) (S : Stop → Prop) (vs : List Stop) : Went n S vs vs := ⟨fun _ h => h, fun _ h => .inl h, fun x h k => absurd h k⟩

theorem Went.trans {n : NetL} {S T : Stop → Prop} {vs us ws : List Stop} (h : Went n S vs us) (g : Went n T us ws) (hT : ∀ x, T x → S x) : Went n S vs ws where
  sub := fun x hx => g.sub x (h.sub x hx)
  new := fun x hx => by
    rcases g.new x hx with k | k
    · exact h.new x k
    · exact .inr (hT x k)
  shut := fun x hx hn y hy => by
    by_cases k : x ∈ us
    · exact g.sub y (h.shut x k hn y hy)
    · exact g.shut x hx k y hy

/-- One stop, and what is behind it. -/
theorem Went.stop {n : NetL} {s : Stop} {vs us : List Stop} (h : Went n (OnWay n s) (vs ++ [s]) us) (hall : ∀ y ∈ behindL n s, y ∈ us) : Went n (OnWay n s) vs us where
  sub := fun x hx => h.sub x (by simp [hx])
  new := fun x hx => by
    rcases h.new x hx with k | k
    · rcases List.mem_append.1 k with k | k
      · exact .inl k
      · have : x = s := by simpa using k
        subst this
        exact .inr (OnWay.here _ _)
    · exact .inr k
  shut := fun x hx hn y hy => by
    by_cases e : x = s
    · subst e; exact hall y hy
    · exact h.shut x hx (by simp [hn, e]) y hy

/-- From nothing: all that is on ways from a stop. -/
theorem Went.all {n : NetL} {s : Stop} {us : List Stop} (h : Went n (OnWay n s) [] us) (hs : s ∈ us) (x : Stop) : x ∈ us ↔ OnWay n s x := by
  constructor
  · intro hx
    rcases h.new x hx with k | k
    · cases k
    · exact k
  · exact fun hx => hx (fun y => y ∈ us) hs fun a b ha hb => h.shut a ha (by simp) b hb

/-- All stops of a net. -/
def allS (n : NetL) : List Stop := ((List.range n.places.toNat).map fun j => (false, j)) ++ (List.range n.trans.length).map fun j => (true, j)
theorem mem_allS {n : NetL} {s : Stop} : s ∈ allS n ↔ FitS n s := by
  obtain ⟨b, k⟩ := s
  cases b <;> simp [allS, FitS]
theorem allS_length {n : NetL} (h : 0 ≤ n.places) : ((allS n).length : Int) = n.places + n.trans.length := by
  simp only [allS, List.length_append, List.length_map, List.length_range]
  omega

theorem nodup_le : ∀ {l1 l2 : List Stop}, l1.Nodup → (∀ x ∈ l1, x ∈ l2) → l1.length ≤ l2.length := by
  intro l1
  induction l1 with
  | nil => intro l2 _ _; simp
  | cons a r ih =>
    intro l2 hn hs
    obtain ⟨h1, h2⟩ := List.nodup_cons.1 hn
    have ha : a ∈ l2 := hs a (by simp)
    have := ih (l2 := l2.erase a) h2 fun x hx => by
      have hne : x ≠ a := fun e => h1 (e ▸ hx)
      exact (List.mem_erase_of_ne hne).2 (hs x (by simp [hx]))
    rw [List.length_erase_of_mem ha] at this
    have := List.length_pos_of_mem ha
    simp only [List.length_cons]
    omega

theorem nodup_full {l1 l2 : List Stop} (hn : l1.Nodup) (hs : ∀ x ∈ l1, x ∈ l2) (hl : l1.length = l2.length) : ∀ x ∈ l2, x ∈ l1 := by
  intro x hx
  apply Classical.byContradiction
  intro hno
  have := nodup_le (l1 := x :: l1) (l2 := l2) (List.nodup_cons.2 ⟨hno, hn⟩) fun y hy => by
    rcases List.mem_cons.1 hy with rfl | hy
    · exact hx
    · exact hs y hy
  simp only [List.length_cons] at this
  omega

theorem allS_nodup (n : NetL) : (allS n).Nodup := by
  unfold allS
  have inj : ∀ b : Bool, ∀ l : List Nat, l.Nodup → (l.map fun j => (b, j)).Nodup := by
    intro b l h
    rw [List.nodup_iff_pairwise_ne] at h
    simp only [List.nodup_iff_pairwise_ne, List.pairwise_map, ne_eq, Prod.mk.injEq, true_and]
    exact h
  rw [List.nodup_append]
  refine ⟨inj _ _ List.nodup_range, inj _ _ List.nodup_range, ?_⟩
  intro a ha b hb e
  subst e
  simp only [List.mem_map] at ha hb
  obtain ⟨_, _, rfl⟩ := ha
  obtain ⟨_, _, e⟩ := hb
  injection e with e _
  cases e

/-- As many were met as there are: all were. -/
theorem met_all {n : NetL} (hn : netOk n = true) {s : Stop} (hs : FitS n s) {us : List Stop} (hd : us.Nodup) (hm : ∀ x, x ∈ us ↔ OnWay n s x) :
    ((us.length : Int) = n.places + n.trans.length) ↔ ∀ x, FitS n x → OnWay n s x := by
  have hl := allS_length (head_of hn).1
  constructor
  · intro e x hx
    refine (hm x).1 (nodup_full hd (fun y hy => mem_allS.2 ((hm y).1 hy |>.fits hn hs)) (by omega) x (mem_allS.2 hx))
  · intro h
    have h1 := nodup_le hd fun y hy => mem_allS.2 (((hm y).1 hy).fits hn hs)
    have h2 := nodup_le (allS_nodup n) fun y hy => (hm y).2 (h y (mem_allS.1 hy))
    omega

theorem nth_in {xs : List Int} {p : Nat} (h : nth xs p ≠ 0) : p < xs.length := by
  rcases Nat.lt_or_ge p xs.length with h1 | h1
  · exact h1
  · exact absurd (nth_past _ _ h1) h

/-- Ways by stops are ways by places. -/
theorem onWay_place {n : NetL} (hn : netOk n = true) {f p : Nat} : OnWay n (false, f) (false, p) ↔ WayP n f p := by
  constructor
  · intro h
    have := h (fun s => if s.1 then WayT n f s.2 ∧ s.2 < n.trans.length else WayP n f s.2) (WayP.here n f) fun a b ha hb => by
      obtain ⟨ba, ka⟩ := a
      obtain ⟨bb, kb⟩ := b
      cases ba with
      | true =>
        obtain ⟨e, h2, h3⟩ := mem_somes.1 (show (bb, kb) ∈ somes false _ _ from hb)
        simp only at e
        subst e
        obtain ⟨⟨q, hq, hq2⟩, hk⟩ := ha
        have h3 : 0 < nth (tranAt n.trans ka).post kb := of_decide_eq_true h3
        exact hq.step hk hq2 (Int.ne_of_gt h3)
      | false =>
        obtain ⟨e, h2, h3⟩ := mem_somes.1 (show (bb, kb) ∈ somes true _ _ from hb)
        simp only at e
        subst e
        have h3 : 0 < nth (tranAt n.trans kb).pre ka := of_decide_eq_true h3
        exact ⟨⟨ka, ha, Int.ne_of_gt h3⟩, h2⟩
    exact this
  · intro h
    refine h (fun p => OnWay n (false, f) (false, p)) (OnWay.here _ _) fun k a b hk ha h1 h2 => ?_
    have r := tran_right (net_tran hn hk)
    have p1 := (okTok_nth r.1 a).1
    have p2 := (okTok_nth r.2 b).1
    have e1 : 0 < nth (tranAt n.trans k).pre a := by omega
    have e2 : 0 < nth (tranAt n.trans k).post b := by omega
    exact (ha.step (b := (true, k)) (mem_somes.2 ⟨rfl, hk, decide_eq_true e1⟩)).step (mem_somes.2 ⟨rfl, nth_in h2, decide_eq_true e2⟩)

theorem onWay_tran {n : NetL} (hn : netOk n = true) {f k : Nat} (hk : k < n.trans.length) : OnWay n (false, f) (true, k) ↔ WayT n f k := by
  constructor
  · intro h
    have := h (fun s => if s.1 then WayT n f s.2 ∧ s.2 < n.trans.length else OnWay n (false, f) (false, s.2)) (OnWay.here _ _) fun a b ha hb => by
      obtain ⟨ba, ka⟩ := a
      obtain ⟨bb, kb⟩ := b
      cases ba with
      | true =>
        obtain ⟨e, h2, h3⟩ := mem_somes.1 (show (bb, kb) ∈ somes false _ _ from hb)
        simp only at e
        subst e
        obtain ⟨⟨q, hq, hq2⟩, hk2⟩ := ha
        have h3 : 0 < nth (tranAt n.trans ka).post kb := of_decide_eq_true h3
        exact (onWay_place hn).2 (hq.step hk2 hq2 (Int.ne_of_gt h3))
      | false =>
        obtain ⟨e, h2, h3⟩ := mem_somes.1 (show (bb, kb) ∈ somes true _ _ from hb)
        simp only at e
        subst e
        have h3 : 0 < nth (tranAt n.trans kb).pre ka := of_decide_eq_true h3
        exact ⟨⟨ka, (onWay_place hn).1 ha, Int.ne_of_gt h3⟩, h2⟩
    exact this.1
  · rintro ⟨p, hp, h1⟩
    have r := tran_right (net_tran hn hk)
    have p1 := (okTok_nth r.1 p).1
    have e1 : 0 < nth (tranAt n.trans k).pre p := by omega
    exact ((onWay_place hn).2 hp).step (mem_somes.2 ⟨rfl, hk, decide_eq_true e1⟩)

theorem onWay_all {n : NetL} (hn : netOk n = true) {f : Nat} : (∀ x, FitS n x → OnWay n (false, f) x) ↔ (∀ p : Nat, (p : Int) < n.places → WayP n f p) ∧ ∀ k, k < n.trans.length → WayT n f k := by
  constructor
  · intro h
    exact ⟨fun p hp => (onWay_place hn).1 (h (false, p) hp), fun k hk => (onWay_tran hn hk).1 (h (true, k) hk)⟩
  · rintro ⟨h1, h2⟩ ⟨b, k⟩ hx
    cases b with
    | true => exact (onWay_tran hn hx).2 (h2 k hx)
    | false => exact (onWay_place hn).2 (h1 k hx)

end Go.Proofs.YteoofibhpifmlaaDoor
