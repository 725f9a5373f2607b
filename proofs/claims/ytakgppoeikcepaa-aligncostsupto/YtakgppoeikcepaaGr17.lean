import Derived.Test.YtakgppoeikcepaaGr04
import Derived.Test.YtakgppoeikcepaaGr16
import Derived.Test.YtakgppoeikcepaaGr02
import Derived.Test.YtakgppoeikcepaaGr01
/- Where one comes without letters, plainly: sets by marks that only grow. -/
namespace Go.Proofs.Ytakgppoeikcepaa
set_option linter.unusedVariables false
set_option maxRecDepth 4000

theorem cntF_le_of {f g : Nat → Bool} : ∀ (n : Nat), (∀ j, j < n → f j = true → g j = true) → cntF g n ≤ cntF f n
  | 0, _ => Nat.le_refl _
  | n + 1, h => by
    have := cntF_le_of n fun j hj => h j (by omega)
    have hn := h n (by omega)
    simp only [cntF]
    cases hf : f n
    · simp; split <;> omega
    · rw [hn hf]; simp; omega
theorem cntF_lt {f g : Nat → Bool} {x : Nat} (hf : f x = false) (hg : g x = true) : ∀ (n : Nat), x < n → (∀ j, j < n → f j = true → g j = true) → cntF g n < cntF f n
  | 0, h, _ => absurd h (Nat.not_lt_zero _)
  | n + 1, h, hh => by
    simp only [cntF]
    by_cases e : x = n
    · subst e
      have := cntF_le_of x fun j hj => hh j (by omega)
      rw [hf, hg]; simp; omega
    · have := cntF_lt hf hg n (by omega) fun j hj => hh j (by omega)
      have hn := hh n (by omega)
      cases hq : f n
      · simp; split <;> omega
      · rw [hn hq]; simp; omega
def sumN (c : Nat → Nat) : Nat → Nat
  | 0 => 0
  | n + 1 => sumN c n + c n
theorem sumN_le {c d : Nat → Nat} : ∀ (n : Nat), (∀ j, j < n → c j ≤ d j) → sumN c n ≤ sumN d n
  | 0, _ => Nat.le_refl _
  | n + 1, h => by
    have h1 := sumN_le n fun j hj => h j (by omega)
    have h2 := h n (by omega)
    simp only [sumN]; omega
theorem sumN_lt {c d : Nat → Nat} {x : Nat} (hx : c x < d x) : ∀ (n : Nat), x < n → (∀ j, j < n → c j ≤ d j) → sumN c n < sumN d n
  | 0, h, _ => absurd h (Nat.not_lt_zero _)
  | n + 1, h, hh => by
    simp only [sumN]
    by_cases e : x = n
    · subst e
      have := sumN_le (c := c) (d := d) x fun j hj => hh j (by omega)
      omega
    · have h1 := sumN_lt hx n (by omega) fun j hj => hh j (by omega)
      have h2 := hh n (by omega)
      omega

/-- How much is not in the sets. -/
def lackM (N : Nat) (f : Nat → SetL) : Nat := sumN (fun m => cntF (fun j => (f m).has j) 320) N
theorem lackM_less {N x : Nat} {f : Nat → SetL} {u : SetL} (hx : x < N) (hne : eqS (orS (f x) u) (f x) = false) : lackM N (updS f x (orS (f x) u)) < lackM N f := by
  have hd : ∃ j, j < 320 ∧ (orS (f x) u).has j = true ∧ (f x).has j = false := by
    refine Classical.byContradiction fun hno => ?_
    have : SameS (orS (f x) u) (f x) := SameS.of_has fun m hm => by
      rw [has_or]
      cases h1 : (f x).has m
      · cases h2 : u.has m
        · rfl
        · exact absurd ⟨m, hm, by rw [has_or, h1, h2]; rfl, h1⟩ hno
      · rfl
    rw [(eqS_iff _ _).2 this] at hne
    cases hne
  obtain ⟨j, hj, h1, h2⟩ := hd
  refine sumN_lt (x := x) ?_ N hx fun m hm => ?_
  · rw [updS_same]
    exact cntF_lt h2 h1 320 hj fun i _ hi => by rw [has_or, hi]; rfl
  · by_cases e : m = x
    · subst e
      rw [updS_same]
      exact cntF_le_of 320 fun i _ hi => by rw [has_or, hi]; rfl
    · rw [updS_other _ _ e]; exact Nat.le_refl _

/-- All that is in the sets is come to without letters; each mark is in its own. -/
structure FarOk (A : List ArcL) (lb : Nat → Int) (N : Nat) (f : Nat → SetL) : Prop where
  self : ∀ m, m < N → (f m).has m = true
  sound : ∀ m, m < N → ∀ j, j < 320 → (f m).has j = true → Way A lb m [] j
theorem FarOk.start {A : List ArcL} {lb : Nat → Int} {N : Nat} {f : Nat → SetL} (h : ∀ m, m < N → f m = onlyS m) : FarOk A lb N f := by
  refine ⟨fun m hm => by rw [h m hm, has_only]; simp, fun m hm j hj hh => ?_⟩
  rw [h m hm, has_only] at hh
  obtain rfl : j = m := by simpa using hh
  exact Way.here _
theorem FarOk.step {A : List ArcL} {lb : Nat → Int} {N : Nat} {f : Nat → SetL} (h : FarOk A lb N f) {a : ArcL} (ha : a ∈ A) (h0 : lb a.tran = 0) (hd : a.dst < N) : FarOk A lb N (updS f a.frm (orS (f a.frm) (f a.dst))) := by
  refine ⟨fun m hm => ?_, fun m hm j hj hh => ?_⟩
  · by_cases e : m = a.frm
    · subst e; rw [updS_same, has_or, h.self _ hm]; rfl
    · rw [updS_other _ _ e]; exact h.self m hm
  · by_cases e : m = a.frm
    · subst e
      rw [updS_same, has_or, Bool.or_eq_true] at hh
      rcases hh with hh | hh
      · exact h.sound _ hm j hj hh
      · exact (Way.arc0 ha h0).append (h.sound _ hd j hj hh)
    · rw [updS_other _ _ e] at hh; exact h.sound m hm j hj hh
/-- Nothing more comes of an arc. -/
def FarShut (lb : Nat → Int) (f : Nat → SetL) (a : Int × Int × Int) : Prop := lb a.2.1.toNat = 0 → ∀ j, j < 320 → (f a.2.2.toNat).has j = true → (f a.1.toNat).has j = true
/-- These are the sets. -/
def FarAll (A : List ArcL) (lb : Nat → Int) (N : Nat) (f : Nat → SetL) : Prop := ∀ m, m < N → ∀ j, j < 320 → ((f m).has j = true ↔ Way A lb m [] j)
theorem FarOk.done {A : List ArcL} {lb : Nat → Int} {N : Nat} {f : Nat → SetL} (h : FarOk A lb N f) (hN : N ≤ 300) (hA : ∀ a ∈ A, a.frm < N ∧ a.dst < N) (hs : ∀ a ∈ A.map arcZ, FarShut lb f a) : FarAll A lb N f := by
  intro m hm j hj
  refine ⟨h.sound m hm j hj, fun hw => ?_⟩
  have hjN : j < N := hw.end_lt (fun a ha => (hA a ha).2) hm
  refine Way.unseenB (P := fun k => (f k).has j = true) (fun a ha h0 hd => ?_) hw (h.self j hjN)
  exact hs (arcZ a) (List.mem_map_of_mem ha) (by simpa [arcZ] using h0) j hj (by simpa [arcZ] using hd)

end Go.Proofs.Ytakgppoeikcepaa

/- How many letters there are to the end, at least, plainly. -/
namespace Go.Proofs.Ytakgppoeikcepaa
set_option linter.unusedVariables false
set_option maxRecDepth 4000

/-- What a letter costs. -/
def costL (l : Int) : Int := if 1 < l then 1 else l
/-- The numbers while they fall: each that is below 300 has a way of as many letters; ends have 0. -/
structure LeastOk (n : NetL) (s : SpaceL) (E : List Int) (f : Nat → Int) : Prop where
  pos : ∀ m, m < s.marks.length → 0 ≤ f m ∧ f m ≤ 300
  ends : ∀ m, m < s.marks.length → markAt s.marks m = E → f m = 0
  sound : ∀ m, m < s.marks.length → f m < 300 → ∃ w, ToEnd n s E m w ∧ (w.length : Int) = f m
def updI (f : Nat → Int) (x : Nat) (t : Int) : Nat → Int := fun k => if k = x then t else f k
theorem updI_same (f : Nat → Int) (x : Nat) (t : Int) : updI f x t x = t := by simp [updI]
theorem updI_other (f : Nat → Int) {x k : Nat} (t : Int) (h : k ≠ x) : updI f x t k = f k := by simp [updI, h]

theorem LeastOk.start {n : NetL} {s : SpaceL} {E : List Int} {f : Nat → Int} (h : ∀ m, m < s.marks.length → f m = if markAt s.marks m = E then 0 else 300) : LeastOk n s E f := by
  refine ⟨fun m hm => by rw [h m hm]; split <;> omega, fun m hm e => by rw [h m hm, if_pos e], fun m hm hl => ?_⟩
  rw [h m hm] at hl ⊢
  by_cases e : markAt s.marks m = E
  · rw [if_pos e]; exact ⟨[], ⟨m, hm, e, Way.here _⟩, rfl⟩
  · rw [if_neg e] at hl; omega
/-- One arc. -/
def stepI (n : NetL) (f : Nat → Int) (a : ArcL) : Int := if f a.dst + costL (labT n a.tran) < f a.frm then f a.dst + costL (labT n a.tran) else f a.frm
theorem cost_pos {l : Int} (h : 0 ≤ l) : 0 ≤ costL l ∧ costL l ≤ 1 := by unfold costL; split <;> omega
theorem LeastOk.step {n : NetL} {s : SpaceL} {E : List Int} {f : Nat → Int} (h : LeastOk n s E f) {a : ArcL} (ha : a ∈ s.arcs) (hx : a.frm < s.marks.length) (hy : a.dst < s.marks.length) (hl : 0 ≤ labT n a.tran) : LeastOk n s E (updI f a.frm (stepI n f a)) := by
  have hc := cost_pos hl
  have px := h.pos _ hx
  have py := h.pos _ hy
  refine ⟨fun m hm => ?_, fun m hm e => ?_, fun m hm hlt => ?_⟩
  · by_cases e : m = a.frm
    · subst e; rw [updI_same]; unfold stepI; split <;> omega
    · rw [updI_other _ _ e]; exact h.pos m hm
  · by_cases e2 : m = a.frm
    · subst e2; rw [updI_same]; unfold stepI; rw [h.ends _ hm e]; split <;> omega
    · rw [updI_other _ _ e2]; exact h.ends m hm e
  · by_cases e : m = a.frm
    · subst e
      rw [updI_same] at hlt ⊢
      unfold stepI at hlt ⊢
      by_cases hq : f a.dst + costL (labT n a.tran) < f a.frm
      · rw [if_pos hq] at hlt ⊢
        obtain ⟨w, ⟨e1, h1, h2, h3⟩, h4⟩ := h.sound a.dst hy (by omega)
        by_cases h0 : labT n a.tran = 0
        · refine ⟨w, ⟨e1, h1, h2, (Way.arc0 ha h0).append h3⟩, ?_⟩
          unfold costL; rw [h0]; simp; exact h4
        · refine ⟨labT n a.tran :: w, ⟨e1, h1, h2, (Way.arc ha h0).append h3⟩, ?_⟩
          unfold costL; simp only [List.length_cons]; split <;> omega
      · rw [if_neg hq] at hlt ⊢
        exact h.sound _ hm hlt
    · rw [updI_other _ _ e] at hlt ⊢; exact h.sound m hm hlt
def sumI (N : Nat) (f : Nat → Int) : Nat := sumN (fun m => (f m).toNat) N
theorem sumI_less {N x : Nat} {f : Nat → Int} {t : Int} (hx : x < N) (ht : t < f x) (h0 : 0 ≤ t) : sumI N (updI f x t) < sumI N f := by
  refine sumN_lt (x := x) ?_ N hx fun m hm => ?_
  · rw [updI_same]; omega
  · by_cases e : m = x
    · subst e; rw [updI_same]; omega
    · rw [updI_other _ _ e]; exact Nat.le_refl _
/-- An arc that lessens nothing. -/
def LeastShut (n : NetL) (f : Nat → Int) (a : Int × Int × Int) : Prop := f a.1.toNat ≤ f a.2.2.toNat + costL (labT n a.2.1.toNat)
/-- These are the numbers. -/
structure LeastAll (n : NetL) (s : SpaceL) (E : List Int) (f : Nat → Int) : Prop where
  pos : ∀ m, m < s.marks.length → 0 ≤ f m ∧ f m ≤ 300
  sound : ∀ m, m < s.marks.length → f m < 300 → ∃ w, ToEnd n s E m w ∧ (w.length : Int) = f m
  least : ∀ m, m < s.marks.length → ∀ w, ToEnd n s E m w → f m ≤ w.length ∧ f m < 300
theorem LeastOk.done {n : NetL} {s : SpaceL} {E : List Int} {f : Nat → Int} (h : LeastOk n s E f) (hN : s.marks.length ≤ 300) (hA : ∀ a ∈ s.arcs, a.frm < s.marks.length ∧ a.dst < s.marks.length ∧ 0 ≤ labT n a.tran) (hs : ∀ a ∈ s.arcs.map arcZ, LeastShut n f a) : LeastAll n s E f := by
  have key : ∀ k m w e, m < s.marks.length → e < s.marks.length → markAt s.marks e = E → WayN s.arcs (labT n) k m w e → f m ≤ w.length := by
    intro k
    induction k with
    | zero =>
      intro m w e hm he hE hw
      obtain ⟨rfl, rfl⟩ := hw
      rw [h.ends m hm hE]; simp
    | succ k ih =>
      intro m w e hm he hE hw
      obtain ⟨a, ha, rfl, u, h1, rfl⟩ := hw
      obtain ⟨q1, q2, q3⟩ := hA a ha
      have h2 := ih a.dst u e q2 he hE h1
      have h3 : f a.frm ≤ f a.dst + costL (labT n a.tran) := by simpa [LeastShut, arcZ] using hs (arcZ a) (List.mem_map_of_mem ha)
      unfold costL at h3
      split
      · rename_i h0; rw [h0] at h3; simp at h3; omega
      · simp only [List.length_cons]; split at h3 <;> omega
  refine ⟨h.pos, h.sound, fun m hm w hw => ?_⟩
  obtain ⟨e, he, hE, k, hk⟩ := hw
  refine ⟨key k m w e hm he hE hk, ?_⟩
  obtain ⟨L, k', hB⟩ := best_of (E := fun e => e < s.marks.length ∧ markAt s.marks e = E) ⟨he, hE⟩ ⟨k, hk⟩
  have hL := hB.short (fun a ha => (hA a ha).2.1) hm
  obtain ⟨⟨w', e', ⟨he', hE'⟩, hl', hw'⟩, _⟩ := hB
  have := key k' m w' e' hm he' hE' hw'
  omega
theorem LeastAll.zero {n : NetL} {s : SpaceL} {E : List Int} {f : Nat → Int} (h : LeastAll n s E f) {m : Nat} (hm : m < s.marks.length) : f m = 0 ↔ ToEnd n s E m [] := by
  constructor
  · intro e
    obtain ⟨w, hw, hl⟩ := h.sound m hm (by omega)
    obtain rfl : w = [] := List.length_eq_zero_iff.1 (by omega)
    exact hw
  · intro hw
    have := (h.least m hm [] hw).1
    have := (h.pos m hm).1
    simp at *; omega

end Go.Proofs.Ytakgppoeikcepaa

/- What can be seen of a net, in memory; mayEnd. -/
namespace Go.Proofs.Ytakgppoeikcepaa
open Go.RowKit Go.Shelf
set_option linter.unusedVariables false
set_option maxRecDepth 4000

attribute [local go_sem] Oper.semAt_some

/-- All that can be seen of a net, plainly. -/
structure TalkL where
  n : Nat
  bg : SetL
  next : Nat → Nat → SetL
  least : List Int

structure TalkAt (w : World) (T bn : Nat) (lv : Value) (t : TalkL) : Prop where
  cells : w.heap[T]? = some (.cells #[.int .u64 (t.bg.at_ 0 : Nat), .int .u64 (t.bg.at_ 1 : Nat), .int .u64 (t.bg.at_ 2 : Nat), .int .u64 (t.bg.at_ 3 : Nat), .int .u64 (t.bg.at_ 4 : Nat), .slice (some ⟨bn, 0, none⟩) t.n t.n, lv] 80 (0, 0))
  next : ∀ m c, m < t.n → c < 27 → SetC w bn (m * 135 + c * 5) (t.next m c)
  least : Ints w lv t.least
  len : t.least.length = t.n
  small : t.n ≤ 300

theorem TalkAt.below {w w' : World} {T bn : Nat} {lv : Value} {t : TalkL} (h : TalkAt w T bn lv t) (hb : Below w.heap.size w w') : TalkAt w' T bn lv t :=
  ⟨(hb.block T (Array.getElem?_eq_some_iff.1 h.cells).1).trans h.cells, fun m c hm hc => (h.next m c hm hc).below hb, h.least.below hb, h.len, h.small⟩
theorem TalkAt.c5 {w : World} {T bn : Nat} {lv : Value} {t : TalkL} (h : TalkAt w T bn lv t) : w.cell? ⟨T, 5, none⟩ = some (.slice (some ⟨bn, 0, none⟩) t.n t.n) := by simp [World.cell?, h.cells]
theorem TalkAt.c6 {w : World} {T bn : Nat} {lv : Value} {t : TalkL} (h : TalkAt w T bn lv t) : w.cell? ⟨T, 6, none⟩ = some lv := by simp [World.cell?, h.cells]
theorem TalkAt.least_at {w : World} {T bn : Nat} {lv : Value} {t : TalkL} (h : TalkAt w T bn lv t) {m : Nat} (hm : m < t.n) : ∃ b off cap, lv = .slice (some ⟨b, off, none⟩) t.n cap ∧ b < w.heap.size ∧ w.cell? ⟨b, off + m, none⟩ = some (.int .i64 (nth t.least m)) := by
  obtain ⟨a, len, cap, e, hl, _, _, hr⟩ := h.least
  obtain ⟨b, off, ha, hlt, hc⟩ := hr m (by rw [h.len]; exact hm)
  exact ⟨b, off, cap, by rw [e, ha, ← hl, h.len], hlt, hc⟩

/-- Does one of these marks end without letters? -/
def endsT (t : TalkL) (at_ : SetL) (b : Bool) : Prop := b = true ↔ ∃ m, m < t.n ∧ at_.has m = true ∧ nth t.least m = 0

theorem boxesM (w : World) (v0 v2 : Value) (s : SetL) (t0 t2 : TypeId) : ∃ w3, Hid (((w.alloc (.cells #[v0] t0)).alloc (.cells #[.int .u64 (s.at_ 0 : Nat), .int .u64 (s.at_ 1 : Nat), .int .u64 (s.at_ 2 : Nat), .int .u64 (s.at_ 3 : Nat), .int .u64 (s.at_ 4 : Nat)] 77)).alloc (.cells #[v2] t2) = w3) ∧ Below w.heap.size w w3 ∧ w3.heap.size = w.heap.size + 3 ∧
    w3.cell? ⟨w.heap.size, 0, none⟩ = some v0 ∧ SetAt w3 (w.heap.size + 1) s ∧ w3.heap[w.heap.size + 2]? = some (.cells #[v2] t2 (0, 0)) := by
  refine ⟨_, rfl, below_then (below_then (below_new w _) (below_new _ _)) (below_new _ _), by simp, cell_alloc_k (cell_alloc_k (cell_new_k w v0 t0)), ?_, ?_⟩
  · have := (setAt_new (w.alloc (.cells #[v0] t0)) s).below (below_new _ (.cells #[v2] t2))
    simpa using this
  · have := heap_alloc_at ((w.alloc (.cells #[v0] t0)).alloc (.cells (setC s) 77)) (.cells #[v2] t2)
    simpa using this

end Go.Proofs.Ytakgppoeikcepaa

/- behind: where one can be behind a letter. -/
namespace Go.Proofs.Ytakgppoeikcepaa
open Go.RowKit Go.Shelf
set_option linter.unusedVariables false
set_option linter.unusedSimpArgs false
set_option maxRecDepth 4000

attribute [local go_sem] Oper.semAt_some

theorem SetAt.kept {W W' : World} {row : Option Nat} {b : Nat} {s : SetL} (h : SetAt W b s) (hg : W.grownBy W' row) (hr : ∀ r, row = some r → ∃ o : Obj, W.heap[r]? = some o ∧ o.isCells = false) : SetAt W' b s :=
  (hg.block b h.lt (fun e => by obtain ⟨o, h1, h2⟩ := hr b e.symm; rw [show W.heap[b]? = _ from h] at h1; cases h1; cases h2)).trans h

/-- Where one is behind a letter, of these marks. -/
def BehindT (t : TalkL) (s : SetL) (letter : Int) (u : SetL) : Prop := ∀ j, j < 320 → (u.has j = true ↔ 1 ≤ letter ∧ letter ≤ 26 ∧ ∃ m, m < t.n ∧ s.has m = true ∧ (t.next m letter.toNat).has j = true)

theorem boxesB (w : World) (v0 v2 : Value) (s : SetL) (t0 t2 : TypeId) : ∃ w5, Hid (((((w.alloc (.cells #[v0] t0)).alloc (.cells #[.int .u64 (s.at_ 0 : Nat), .int .u64 (s.at_ 1 : Nat), .int .u64 (s.at_ 2 : Nat), .int .u64 (s.at_ 3 : Nat), .int .u64 (s.at_ 4 : Nat)] 77)).alloc (.cells #[v2] t2)).alloc (.cells #[.int .u64 0, .int .u64 0, .int .u64 0, .int .u64 0, .int .u64 0] 77)).alloc (.cells #[.int .u64 0, .int .u64 0, .int .u64 0, .int .u64 0, .int .u64 0] 77) = w5) ∧ Below w.heap.size w w5 ∧ w5.heap.size = w.heap.size + 5 ∧
    w5.cell? ⟨w.heap.size, 0, none⟩ = some v0 ∧ SetAt w5 (w.heap.size + 1) s ∧ w5.cell? ⟨w.heap.size + 2, 0, none⟩ = some v2 ∧ SetAt w5 (w.heap.size + 3) noneS ∧ SetAt w5 (w.heap.size + 4) noneS := by
  obtain ⟨w3, H, b, hs, c0, A1, h2⟩ := boxesM w v0 v2 s t0 t2
  have b4 := below_new w3 (.cells #[.int .u64 0, .int .u64 0, .int .u64 0, .int .u64 0, .int .u64 0] 77)
  have b5 := below_new (w3.alloc (.cells #[.int .u64 0, .int .u64 0, .int .u64 0, .int .u64 0, .int .u64 0] 77)) (.cells #[.int .u64 0, .int .u64 0, .int .u64 0, .int .u64 0, .int .u64 0] 77)
  have a4 : SetAt (w3.alloc (.cells #[.int .u64 0, .int .u64 0, .int .u64 0, .int .u64 0, .int .u64 0] 77)) w3.heap.size noneS := setAt_new w3 noneS
  have a5 : SetAt ((w3.alloc (.cells #[.int .u64 0, .int .u64 0, .int .u64 0, .int .u64 0, .int .u64 0] 77)).alloc (.cells #[.int .u64 0, .int .u64 0, .int .u64 0, .int .u64 0, .int .u64 0] 77)) (w3.heap.size + 1) noneS := by
    have e : (w3.alloc (.cells #[.int .u64 0, .int .u64 0, .int .u64 0, .int .u64 0, .int .u64 0] 77)).heap.size = w3.heap.size + 1 := by simp
    have := setAt_new (w3.alloc (.cells #[.int .u64 0, .int .u64 0, .int .u64 0, .int .u64 0, .int .u64 0] 77)) noneS
    rw [e] at this
    exact this
  rw [H.out]
  rw [hs] at a4 a5
  have b45 := below_then b4 b5
  exact ⟨_, rfl, below_then b b45, by simp [hs], (b45.cell (p := ⟨w.heap.size, 0, none⟩) (show w.heap.size < w3.heap.size by omega)).trans c0, A1.below b45, (b45.cell (p := ⟨w.heap.size + 2, 0, none⟩) (show w.heap.size + 2 < w3.heap.size by omega)).trans (box_cell h2).1, a4.below b5, a5⟩

/-- What holds while marks are gone through. -/
structure BehindI (w : World) (T : Nat) (t : TalkL) (letter : Nat) (pre : List Nat) (W : World) : Prop where
  ex : ∃ u, SetAt W (w.heap.size + 4) u ∧ ∀ j, j < 320 → (u.has j = true ↔ ∃ m ∈ pre, (t.next m letter).has j = true)
  c0 : W.cell? ⟨w.heap.size, 0, none⟩ = some (.pointer (some ⟨T, 0, none⟩))
  c2 : W.cell? ⟨w.heap.size + 2, 0, none⟩ = some (.int .i64 (letter : Int))
  a3 : SetAt W (w.heap.size + 3) noneS
  below : Below w.heap.size w W

theorem behindI_own {w : World} {T : Nat} {t : TalkL} {letter : Nat} {B : Nat} (hB : w.heap.size ≤ B) : OwnFrom B (fun pre W => BehindI w T t letter pre W) := by
  intro pre W W' row hs hg hr
  obtain ⟨⟨u, h1, h2⟩, c0, c2, a3, hb⟩ := hs
  exact ⟨⟨u, h1.kept hg (fun r e => (hr r e).2), h2⟩, Go.cell_kept c0 hg (fun r e => (hr r e).2), Go.cell_kept c2 hg (fun r e => (hr r e).2), a3.kept hg (fun r e => (hr r e).2), ownFrom_below (β := List Nat) (Nat.le_refl _) hB pre W W' row hb hg hr⟩

end Go.Proofs.Ytakgppoeikcepaa
