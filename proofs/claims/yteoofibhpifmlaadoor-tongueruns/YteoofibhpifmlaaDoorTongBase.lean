/- Plain words for the words of nets: ways along arcs, and what is seen of them. -/
import Derived.Test.YteoofibhpifmlaaDoorLiveBase
namespace Go.Proofs.YteoofibhpifmlaaDoor
set_option linter.unusedVariables false
set_option maxRecDepth 4000

/-- A way of so many arcs, and what is seen of it; lb tells what is seen of a transition, 0: nothing. -/
def WayN (A : List ArcL) (lb : Nat → Int) : Nat → Nat → List Int → Nat → Prop
  | 0, f, w, d => f = d ∧ w = []
  | k + 1, f, w, d => ∃ a ∈ A, a.frm = f ∧ ∃ u, WayN A lb k a.dst u d ∧ w = (if lb a.tran = 0 then u else lb a.tran :: u)
def Way (A : List ArcL) (lb : Nat → Int) (f : Nat) (w : List Int) (d : Nat) : Prop := ∃ k, WayN A lb k f w d

theorem WayN.cons {A : List ArcL} {lb : Nat → Int} {k d : Nat} {u : List Int} {a : ArcL} (ha : a ∈ A) (h : WayN A lb k a.dst u d) : WayN A lb (k + 1) a.frm (if lb a.tran = 0 then u else lb a.tran :: u) d := ⟨a, ha, rfl, u, h, rfl⟩
theorem WayN.append {A : List ArcL} {lb : Nat → Int} : ∀ {k j f m d : Nat} {u v : List Int}, WayN A lb k f u m → WayN A lb j m v d → WayN A lb (k + j) f (u ++ v) d := by
  intro k
  induction k with
  | zero => intro j f m d u v h1 h2; obtain ⟨rfl, rfl⟩ := h1; rw [Nat.zero_add]; exact h2
  | succ k ih =>
    intro j f m d u v h1 h2
    obtain ⟨a, ha, e, u', h, rfl⟩ := h1
    have h3 := ih h h2
    rw [show k + 1 + j = k + j + 1 by omega]
    refine ⟨a, ha, e, u' ++ v, h3, ?_⟩
    split <;> simp
theorem Way.here {A : List ArcL} {lb : Nat → Int} (f : Nat) : Way A lb f [] f := ⟨0, rfl, rfl⟩
theorem Way.append {A : List ArcL} {lb : Nat → Int} {f m d : Nat} {u v : List Int} (h1 : Way A lb f u m) (h2 : Way A lb m v d) : Way A lb f (u ++ v) d := by
  obtain ⟨k, h1⟩ := h1
  obtain ⟨j, h2⟩ := h2
  exact ⟨_, h1.append h2⟩
theorem Way.arc {A : List ArcL} {lb : Nat → Int} {a : ArcL} (ha : a ∈ A) (h : lb a.tran ≠ 0) : Way A lb a.frm [lb a.tran] a.dst := by
  have := WayN.cons (lb := lb) ha (k := 0) ⟨rfl, rfl⟩
  rw [if_neg h] at this
  exact ⟨_, this⟩
theorem Way.arc0 {A : List ArcL} {lb : Nat → Int} {a : ArcL} (ha : a ∈ A) (h : lb a.tran = 0) : Way A lb a.frm [] a.dst := by
  have := WayN.cons (lb := lb) ha (k := 0) ⟨rfl, rfl⟩
  rw [if_pos h] at this
  exact ⟨_, this⟩

/-- What is closed under arcs without letters has all that is come to without letters. -/
theorem Way.unseen {A : List ArcL} {lb : Nat → Int} {P : Nat → Prop} (hP : ∀ a ∈ A, lb a.tran = 0 → P a.frm → P a.dst) : ∀ {f d : Nat}, Way A lb f [] d → P f → P d := by
  rintro f d ⟨k, h⟩
  induction k generalizing f with
  | zero => intro hf; obtain ⟨rfl, _⟩ := h; exact hf
  | succ k ih =>
    intro hf
    obtain ⟨a, ha, e, u, h1, h2⟩ := h
    by_cases h0 : lb a.tran = 0
    · rw [if_pos h0] at h2
      subst h2
      exact ih h1 (hP a ha h0 (by rw [e]; exact hf))
    · rw [if_neg h0] at h2
      cases h2
theorem Way.unseenB {A : List ArcL} {lb : Nat → Int} {P : Nat → Prop} (hP : ∀ a ∈ A, lb a.tran = 0 → P a.dst → P a.frm) : ∀ {f d : Nat}, Way A lb f [] d → P d → P f := by
  rintro f d ⟨k, h⟩
  induction k generalizing f with
  | zero => intro hf; obtain ⟨rfl, _⟩ := h; exact hf
  | succ k ih =>
    intro hd
    obtain ⟨a, ha, e, u, h1, h2⟩ := h
    by_cases h0 : lb a.tran = 0
    · rw [if_pos h0] at h2
      subst h2
      rw [← e]
      exact hP a ha h0 (ih h1 hd)
    · rw [if_neg h0] at h2
      cases h2

/-- The first letter. -/
theorem Way.first {A : List ArcL} {lb : Nat → Int} {f d : Nat} {l : Int} {w : List Int} (h : Way A lb f (l :: w) d) : ∃ a ∈ A, Way A lb f [] a.frm ∧ lb a.tran = l ∧ l ≠ 0 ∧ Way A lb a.dst w d := by
  obtain ⟨k, h⟩ := h
  induction k generalizing f with
  | zero => obtain ⟨_, h⟩ := h; cases h
  | succ k ih =>
    obtain ⟨a, ha, rfl, u, h1, h2⟩ := h
    by_cases h0 : lb a.tran = 0
    · rw [if_pos h0] at h2
      subst h2
      obtain ⟨b, hb, q1, q2, q3, q4⟩ := ih h1
      exact ⟨b, hb, (Way.arc0 ha h0).append q1, q2, q3, q4⟩
    · rw [if_neg h0] at h2
      injection h2 with h2 h3
      subst h3
      exact ⟨a, ha, Way.here _, h2.symm, by rw [h2]; exact h0, ⟨k, h1⟩⟩

theorem Way.split {A : List ArcL} {lb : Nat → Int} : ∀ {u v : List Int} {f d : Nat}, Way A lb f (u ++ v) d → ∃ m, Way A lb f u m ∧ Way A lb m v d := by
  intro u
  induction u with
  | nil => intro v f d h; exact ⟨f, Way.here _, h⟩
  | cons l u ih =>
    intro v f d h
    obtain ⟨a, ha, h1, h2, h0, h3⟩ := Way.first (w := u ++ v) h
    obtain ⟨m, h4, h5⟩ := ih h3
    have := h1.append ((Way.arc (lb := lb) ha (by rw [h2]; exact h0)).append h4)
    rw [h2] at this
    exact ⟨m, this, h5⟩

/-- The last letter. -/
theorem Way.last {A : List ArcL} {lb : Nat → Int} {f d : Nat} {l : Int} {w : List Int} : Way A lb f (w ++ [l]) d ↔ ∃ a ∈ A, Way A lb f w a.frm ∧ lb a.tran = l ∧ l ≠ 0 ∧ Way A lb a.dst [] d := by
  constructor
  · intro h
    obtain ⟨m, h1, h2⟩ := h.split
    obtain ⟨a, ha, h3, h4, h5, h6⟩ := h2.first
    refine ⟨a, ha, ?_, h4, h5, h6⟩
    have := h1.append h3
    rwa [List.append_nil] at this
  · rintro ⟨a, ha, h1, h2, h3, h4⟩
    have := h1.append ((Way.arc (lb := lb) ha (by rw [h2]; exact h3)).append h4)
    rwa [h2] at this

theorem Way.end_lt {A : List ArcL} {lb : Nat → Int} {N f d : Nat} {w : List Int} (hA : ∀ a ∈ A, a.dst < N) (hf : f < N) (h : Way A lb f w d) : d < N := by
  obtain ⟨k, h⟩ := h
  induction k generalizing f w with
  | zero => obtain ⟨rfl, _⟩ := h; exact hf
  | succ k ih => obtain ⟨a, ha, e, u, h1, h2⟩ := h; exact ih (hA a ha) h1

/-! ### the shortest ones -/
theorem least_of {P : Nat → Prop} (h : ∃ n, P n) : ∃ n, P n ∧ ∀ m, P m → n ≤ m := by
  obtain ⟨n, hn⟩ := h
  induction n using Nat.strongRecOn with
  | ind n ih =>
    by_cases hm : ∃ m, m < n ∧ P m
    · obtain ⟨m, h1, h2⟩ := hm; exact ih m h1 h2
    · exact ⟨n, hn, fun m hP => Nat.le_of_not_lt fun h => hm ⟨m, h, hP⟩⟩

/-- So many letters, and among these so many arcs: no way to the end has less. -/
def Best (A : List ArcL) (lb : Nat → Int) (E : Nat → Prop) (f L k : Nat) : Prop :=
  (∃ w e, E e ∧ w.length = L ∧ WayN A lb k f w e) ∧ (∀ w e, E e → Way A lb f w e → L ≤ w.length) ∧ ∀ j w e, E e → w.length = L → WayN A lb j f w e → k ≤ j

theorem best_of {A : List ArcL} {lb : Nat → Int} {E : Nat → Prop} {f e : Nat} {w : List Int} (hE : E e) (h : Way A lb f w e) : ∃ L k, Best A lb E f L k := by
  obtain ⟨L, ⟨w1, e1, hE1, hL, h1⟩, hmin⟩ := least_of (P := fun L => ∃ w e, E e ∧ w.length = L ∧ Way A lb f w e) ⟨_, w, e, hE, rfl, h⟩
  obtain ⟨j1, h1⟩ := h1
  obtain ⟨k, ⟨w2, e2, hE2, hL2, h2⟩, hmin2⟩ := least_of (P := fun k => ∃ w e, E e ∧ w.length = L ∧ WayN A lb k f w e) ⟨_, w1, e1, hE1, hL, h1⟩
  exact ⟨L, k, ⟨w2, e2, hE2, hL2, h2⟩, fun w' e' hE' h' => hmin _ ⟨w', e', hE', rfl, h'⟩, fun j w' e' hE' hl h' => hmin2 j ⟨w', e', hE', hl, h'⟩⟩
theorem Best.one {A : List ArcL} {lb : Nat → Int} {E : Nat → Prop} {f L k L' k' : Nat} (h : Best A lb E f L k) (h' : Best A lb E f L' k') : L = L' ∧ k = k' := by
  obtain ⟨⟨w, e, hE, hL, h1⟩, h2, h3⟩ := h
  obtain ⟨⟨w', e', hE', hL', h1'⟩, h2', h3'⟩ := h'
  have a1 := h2 w' e' hE' ⟨_, h1'⟩
  have a2 := h2' w e hE ⟨_, h1⟩
  have e0 : L = L' := by omega
  subst e0
  have a3 := h3 _ w' e' hE' hL' h1'
  have a4 := h3' _ w e hE hL h1
  exact ⟨rfl, by omega⟩
theorem Best.down {A : List ArcL} {lb : Nat → Int} {E : Nat → Prop} {f L k : Nat} (h : Best A lb E f L (k + 1)) : ∃ a ∈ A, a.frm = f ∧ ∃ L', Best A lb E a.dst L' k := by
  obtain ⟨⟨w, e, hE, hL, a, ha, hf, u, h1, h2⟩, h3, h4⟩ := h
  obtain ⟨L', k', hB⟩ := best_of (f := a.dst) hE ⟨_, h1⟩
  refine ⟨a, ha, hf, L', ?_⟩
  obtain ⟨⟨w', e', hE', hL', q1⟩, q2, q3⟩ := hB
  have c1 := WayN.cons (lb := lb) ha q1
  rw [hf] at c1
  have c2 := h3 _ e' hE' ⟨_, c1⟩
  have c3 := q2 u e hE ⟨_, h1⟩
  have hul : u.length = L' ∧ (if lb a.tran = 0 then w' else lb a.tran :: w').length = L := by
    subst h2
    by_cases h0 : lb a.tran = 0
    · simp only [if_pos h0] at hL c2 ⊢; exact ⟨by omega, by omega⟩
    · simp only [if_neg h0, List.length_cons] at hL c2 ⊢; exact ⟨by omega, by omega⟩
  have c4 := h4 _ _ e' hE' hul.2 c1
  have c5 := q3 _ u e hE hul.1 h1
  obtain rfl : k = k' := by omega
  exact ⟨⟨w', e', hE', hL', q1⟩, q2, q3⟩

theorem nodup_nat {l1 : List Nat} : ∀ {l2 : List Nat}, l1.Nodup → (∀ x ∈ l1, x ∈ l2) → l1.length ≤ l2.length := by
  induction l1 with
  | nil => intro l2 _ _; exact Nat.zero_le _
  | cons x l1 ih =>
    intro l2 hn hs
    obtain ⟨h1, h2⟩ := List.nodup_cons.1 hn
    have := ih (l2 := l2.erase x) h2 fun y hy => (List.mem_erase_of_ne (fun e => h1 (by rw [← e]; exact hy))).2 (hs y (by simp [hy]))
    rw [List.length_erase_of_mem (hs x (by simp))] at this
    have h0 : 0 < l2.length := List.length_pos_of_mem (hs x (by simp))
    simp only [List.length_cons]
    omega

/-- As many marks as a best way has arcs lie ahead, each at another distance. -/
theorem Best.marks {A : List ArcL} {lb : Nat → Int} {E : Nat → Prop} {N : Nat} (hA : ∀ a ∈ A, a.dst < N) : ∀ {k f L : Nat}, f < N → Best A lb E f L k → ∃ l : List Nat, l.length = k + 1 ∧ l.Nodup ∧ ∀ x ∈ l, x < N ∧ ∃ L' j, j ≤ k ∧ Best A lb E x L' j := by
  intro k
  induction k with
  | zero => intro f L hf h; exact ⟨[f], rfl, by simp, fun x hx => by rw [List.mem_singleton.1 hx]; exact ⟨hf, L, 0, Nat.le_refl _, h⟩⟩
  | succ k ih =>
    intro f L hf h
    obtain ⟨a, ha, e, L', h'⟩ := h.down
    obtain ⟨l, h1, h2, h3⟩ := ih (hA a ha) h'
    refine ⟨f :: l, by simp [h1], List.nodup_cons.2 ⟨fun hm => ?_, h2⟩, fun x hx => ?_⟩
    · obtain ⟨_, L2, j, hj, hb⟩ := h3 f hm
      have := (hb.one h).2
      omega
    · rcases List.mem_cons.1 hx with rfl | hx
      · exact ⟨hf, L, k + 1, Nat.le_refl _, h⟩
      · obtain ⟨q1, L2, j, hj, hb⟩ := h3 x hx
        exact ⟨q1, L2, j, by omega, hb⟩
theorem Best.few {A : List ArcL} {lb : Nat → Int} {E : Nat → Prop} {N k f L : Nat} (hA : ∀ a ∈ A, a.dst < N) (hf : f < N) (h : Best A lb E f L k) : k < N := by
  obtain ⟨l, h1, h2, h3⟩ := h.marks hA hf
  have := nodup_nat (l2 := List.range N) h2 fun x hx => List.mem_range.2 (h3 x hx).1
  rw [List.length_range] at this
  omega
theorem WayN.len {A : List ArcL} {lb : Nat → Int} : ∀ {k f d : Nat} {w : List Int}, WayN A lb k f w d → w.length ≤ k := by
  intro k
  induction k with
  | zero => intro f d w h; rw [h.2]; simp
  | succ k ih =>
    intro f d w h
    obtain ⟨a, ha, e, u, h1, rfl⟩ := h
    have := ih h1
    split <;> simp <;> omega
theorem Best.short {A : List ArcL} {lb : Nat → Int} {E : Nat → Prop} {N k f L : Nat} (hA : ∀ a ∈ A, a.dst < N) (hf : f < N) (h : Best A lb E f L k) : L < N := by
  have h1 := h.few hA hf
  obtain ⟨⟨w, e, hE, hL, h2⟩, _⟩ := h
  have := h2.len
  omega

/-! ### the words of a net -/
def labT (n : NetL) (t : Nat) : Int := (tranAt n.trans t).label
def seenL (n : NetL) : List Int → List Int
  | [] => []
  | t :: ts => if labT n t.toNat = 0 then seenL n ts else labT n t.toNat :: seenL n ts
/-- Is it a word from mark to mark? -/
def WordN (n : NetL) (S E w : List Int) : Prop := ∃ seq, runL n S seq = (E, 0) ∧ seenL n seq = w
/-- Is it a word from a mark's number to the end? -/
def ToEnd (n : NetL) (s : SpaceL) (E : List Int) (f : Nat) (w : List Int) : Prop := ∃ e, e < s.marks.length ∧ markAt s.marks e = E ∧ Way s.arcs (labT n) f w e

theorem Whole.way_run {n : NetL} {m : List Int} {s : SpaceL} (h : Whole n m s) : ∀ {k f d : Nat} {w : List Int}, f < s.marks.length → WayN s.arcs (labT n) k f w d → d < s.marks.length ∧ ∃ seq, runL n (markAt s.marks f) seq = (markAt s.marks d, 0) ∧ seenL n seq = w := by
  have hfit : ∀ g, g < s.marks.length → fitsL n (markAt s.marks g) = true := by obtain ⟨most, k, hF, hk⟩ := h; exact fun g hg => hF.fits _ (markAt_mem hg)
  intro k
  induction k with
  | zero => intro f d w hf hw; obtain ⟨rfl, rfl⟩ := hw; exact ⟨hf, [], run_nil.2 ⟨hfit f hf, rfl⟩, rfl⟩
  | succ k ih =>
    intro f d w hf hw
    obtain ⟨a, ha, rfl, u, h1, rfl⟩ := hw
    obtain ⟨b1, b2, b3, b4⟩ := h.sound a ha
    obtain ⟨hd, seq, q1, q2⟩ := ih b2 h1
    exact ⟨hd, (a.tran : Int) :: seq, run_cons.2 ⟨_, b4, q1⟩, by simp only [seenL, Int.toNat_natCast, q2]⟩
theorem Whole.run_way {n : NetL} {m : List Int} {s : SpaceL} (h : Whole n m s) : ∀ (seq : List Int) {f : Nat} {z : List Int}, f < s.marks.length → runL n (markAt s.marks f) seq = (z, 0) → ∃ d, d < s.marks.length ∧ markAt s.marks d = z ∧ Way s.arcs (labT n) f (seenL n seq) d := by
  intro seq
  induction seq with
  | nil => intro f z hf hr; obtain ⟨_, rfl⟩ := run_nil.1 hr; exact ⟨f, hf, rfl, Way.here _⟩
  | cons t ts ih =>
    intro f z hf hr
    obtain ⟨y, h1, h2⟩ := run_cons.1 hr
    rcases h.fire hf t with h3 | ⟨j, g, rfl, hg, hgl, e⟩
    · rw [h1] at h3; simp at h3
    · rw [e] at h1
      injection h1 with h1 _
      subst h1
      obtain ⟨d, hd, hz, k, hk⟩ := ih hgl h2
      have := WayN.cons (lb := labT n) hg hk
      exact ⟨d, hd, hz, _, by simpa only [seenL, Int.toNat_natCast] using this⟩
theorem Whole.word {n : NetL} {S E w : List Int} {s : SpaceL} (h : Whole n S s) : WordN n S E w ↔ ToEnd n s E 0 w := by
  obtain ⟨h0, h1⟩ := h.here
  constructor
  · rintro ⟨seq, hr, rfl⟩
    rw [← h1] at hr
    obtain ⟨d, hd, hz, hw⟩ := h.run_way seq h0 hr
    exact ⟨d, hd, hz, hw⟩
  · rintro ⟨e, he, rfl, k, hw⟩
    obtain ⟨_, seq, q1, q2⟩ := h.way_run h0 hw
    rw [h1] at q1
    exact ⟨seq, q1, q2⟩

end Go.Proofs.YteoofibhpifmlaaDoor
