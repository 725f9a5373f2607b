import Derived.Test.YtakgppoeikcepaaDoorGr04
import Derived.Test.YtakgppoeikcepaaDoorGr17
import Derived.Test.YtakgppoeikcepaaDoorGr02
import Derived.Test.YtakgppoeikcepaaDoorGr01
/- Where one comes without letters, plainly: sets by marks that only grow. -/
namespace Go.Proofs.YtakgppoeikcepaaDoor
set_option linter.unusedVariables false
set_option maxRecDepth 4000

theorem cntF_le_of {f g : Nat → Bool} : ∀ (n : Nat), (∀ j, j < n → f j = true → g j = true) → cntF g n ≤ cntF f n
  | 0, _ => Nat.le_refl _
  | n + 1, h => by
    have := cntF_le_of n fun j hj => h j (by omega)
    have hn := h n (by omega)
    simp only [cntF]
    cases hf : f n
    · simp; split <;> omega
    · rw [hn hf]; simp; omega
theorem cntF_lt {f g : Nat → Bool} {x : Nat} (hf : f x = false) (hg : g x = true) : ∀ (n : Nat), x < n → (∀ j, j < n → f j = true → g j = true) → cntF g n < cntF f n
  | 0, h, _ => absurd h (Nat.not_lt_zero _)
  | n + 1, h, hh => by
    simp only [cntF]
    by_cases e : x = n
    · subst e
      have := cntF_le_of x fun j hj => hh j (by omega)
      rw [hf, hg]; simp; omega
    · have := cntF_lt hf hg n (by omega) fun j hj => hh j (by omega)
      have hn := hh n (by omega)
      cases hq : f n
      · simp; split <;> omega
      · rw [hn hq]; simp; omega
def sumN (c : Nat → Nat) : Nat → Nat
  | 0 => 0
  | n + 1 => sumN c n + c n
theorem sumN_le {c d : Nat → Nat} : ∀ (n : Nat), (∀ j, j < n → c j ≤ d j) → sumN c n ≤ sumN d n
  | 0, _ => Nat.le_refl _
  | n + 1, h => by
    have h1 := sumN_le n fun j hj => h j (by omega)
    have h2 := h n (by omega)
    simp only [sumN]; omega
theorem sumN_lt {c d : Nat → Nat} {x : Nat} (hx : c x < d x) : ∀ (n : Nat), x < n → (∀ j, j < n → c j ≤ d j) → sumN c n < sumN d n
  | 0, h, _ => absurd h (Nat.not_lt_zero _)
  | n + 1, h, hh => by
    simp only [sumN]
    by_cases e : x = n
    · subst e
      have := sumN_le (c := c) (d := d) x fun j hj => hh j (by omega)
      omega
    · have h1 := sumN_lt hx n (by omega) fun j hj => hh j (by omega)
      have h2 := hh n (by omega)
      omega

/-- How much is not in the sets. -/
def lackM (N : Nat) (f : Nat → SetL) : Nat := sumN (fun m => cntF (fun j => (f m).has j) 320) N
theorem lackM_less {N x : Nat} {f : Nat → SetL} {u : SetL} (hx : x < N) (hne : eqS (orS (f x) u) (f x) = false) : lackM N (updS f x (orS (f x) u)) < lackM N f := by
  have hd : ∃ j, j < 320 ∧ (orS (f x) u).has j = true ∧ (f x).has j = false := by
    refine Classical.byContradiction fun hno => ?_
    have : SameS (orS (f x) u) (f x) := SameS.of_has fun m hm => by
      rw [has_or]
      cases h1 : (f x).has m
      · cases h2 : u.has m
        · rfl
        · exact absurd ⟨m, hm, by rw [has_or, h1, h2]; rfl, h1⟩ hno
      · rfl
    rw [(eqS_iff _ _).2 this] at hne
    cases hne
  obtain ⟨j, hj, h1, h2⟩ := hd
  refine sumN_lt (x := x) ?_ N hx fun m hm => ?_
  · rw [updS_same]
    exact cntF_lt h2 h1 320 hj fun i _ hi => by rw [has_or, hi]; rfl
  · by_cases e : m = x
    · subst e
      rw [updS_same]
      exact cntF_le_of 320 fun i _ hi => by rw [has_or, hi]; rfl
    · rw [updS_other _ _ e]; exact Nat.le_refl _

/-- All that is in the sets is come to without letters; each mark is in its own. -/
structure FarOk (A : List ArcL) (lb : Nat → Int) (N : Nat) (f : Nat → SetL) : Prop where
  self : ∀ m, m < N → (f m).has m = true
  sound : ∀ m, m < N → ∀ j, j < 320 → (f m).has j = true → Way A lb m [] j
theorem FarOk.start {A : List ArcL} {lb : Nat → Int} {N : Nat} {f : Nat → SetL} (h : ∀ m, m < N → f m = onlyS m) : FarOk A lb N f := by
  refine ⟨fun m hm => by rw [h m hm, has_only]; simp, fun m hm j hj hh => ?_⟩
  rw [h m hm, has_only] at hh
  obtain rfl : j = m := by simpa using hh
  exact Way.here _
theorem FarOk.step {A : List ArcL} {lb : Nat → Int} {N : Nat} {f : Nat → SetL} (h : FarOk A lb N f) {a : ArcL} (ha : a ∈ A) (h0 : lb a.tran = 0) (hd : a.dst < N) : FarOk A lb N (updS f a.frm (orS (f a.frm) (f a.dst))) := by
  refine ⟨fun m hm => ?_, fun m hm j hj hh => ?_⟩
  · by_cases e : m = a.frm
    · subst e; rw [updS_same, has_or, h.self _ hm]; rfl
    · rw [updS_other _ _ e]; exact h.self m hm
  · by_cases e : m = a.frm
    · subst e
      rw [updS_same, has_or, Bool.or_eq_true] at hh
      rcases hh with hh | hh
      · exact h.sound _ hm j hj hh
      · exact (Way.arc0 ha h0).append (h.sound _ hd j hj hh)
    · rw [updS_other _ _ e] at hh; exact h.sound m hm j hj hh
/-- Nothing more comes of an arc. -/
def FarShut (lb : Nat → Int) (f : Nat → SetL) (a : Int × Int × Int) : Prop := lb a.2.1.toNat = 0 → ∀ j, j < 320 → (f a.2.2.toNat).has j = true → (f a.1.toNat).has j = true
/-- These are the sets. -/
def FarAll (A : List ArcL) (lb : Nat → Int) (N : Nat) (f : Nat → SetL) : Prop := ∀ m, m < N → ∀ j, j < 320 → ((f m).has j = true ↔ Way A lb m [] j)
theorem FarOk.done {A : List ArcL} {lb : Nat → Int} {N : Nat} {f : Nat → SetL} (h : FarOk A lb N f) (hN : N ≤ 300) (hA : ∀ a ∈ A, a.frm < N ∧ a.dst < N) (hs : ∀ a ∈ A.map arcZ, FarShut lb f a) : FarAll A lb N f := by
  intro m hm j hj
  refine ⟨h.sound m hm j hj, fun hw => ?_⟩
  have hjN : j < N := hw.end_lt (fun a ha => (hA a ha).2) hm
  refine Way.unseenB (P := fun k => (f k).has j = true) (fun a ha h0 hd => ?_) hw (h.self j hjN)
  exact hs (arcZ a) (List.mem_map_of_mem ha) (by simpa [arcZ] using h0) j hj (by simpa [arcZ] using hd)

end Go.Proofs.YtakgppoeikcepaaDoor

/- How many letters there are to the end, at least, plainly. -/
namespace Go.Proofs.YtakgppoeikcepaaDoor
set_option linter.unusedVariables false
set_option maxRecDepth 4000

/-- What a letter costs. -/
def costL (l : Int) : Int := if 1 < l then 1 else l
/-- The numbers while they fall: each that is below 300 has a way of as many letters; ends have 0. -/
structure LeastOk (n : NetL) (s : SpaceL) (E : List Int) (f : Nat → Int) : Prop where
  pos : ∀ m, m < s.marks.length → 0 ≤ f m ∧ f m ≤ 300
  ends : ∀ m, m < s.marks.length → markAt s.marks m = E → f m = 0
  sound : ∀ m, m < s.marks.length → f m < 300 → ∃ w, ToEnd n s E m w ∧ (w.length : Int) = f m
def updI (f : Nat → Int) (x : Nat) (t : Int) : Nat → Int := fun k => if k = x then t else f k
theorem updI_same (f : Nat → Int) (x : Nat) (t : Int) : updI f x t x = t := by simp [updI]
theorem updI_other (f : Nat → Int) {x k : Nat} (t : Int) (h : k ≠ x) : updI f x t k = f k := by simp [updI, h]

theorem LeastOk.start {n : NetL} {s : SpaceL} {E : List Int} {f : Nat → Int} (h : ∀ m, m < s.marks.length → f m = if markAt s.marks m = E then 0 else 300) : LeastOk n s E f := by
  refine ⟨fun m hm => by rw [h m hm]; split <;> omega, fun m hm e => by rw [h m hm, if_pos e], fun m hm hl => ?_⟩
  rw [h m hm] at hl ⊢
  by_cases e : markAt s.marks m = E
  · rw [if_pos e]; exact ⟨[], ⟨m, hm, e, Way.here _⟩, rfl⟩
  · rw [if_neg e] at hl; omega
/-- One arc. -/
def stepI (n : NetL) (f : Nat → Int) (a : ArcL) : Int := if f a.dst + costL (labT n a.tran) < f a.frm then f a.dst + costL (labT n a.tran) else f a.frm
theorem cost_pos {l : Int} (h : 0 ≤ l) : 0 ≤ costL l ∧ costL l ≤ 1 := by unfold costL; split <;> omega
theorem LeastOk.step {n : NetL} {s : SpaceL} {E : List Int} {f : Nat → Int} (h : LeastOk n s E f) {a : ArcL} (ha : a ∈ s.arcs) (hx : a.frm < s.marks.length) (hy : a.dst < s.marks.length) (hl : 0 ≤ labT n a.tran) : LeastOk n s E (updI f a.frm (stepI n f a)) := by
  have hc := cost_pos hl
  have px := h.pos _ hx
  have py := h.pos _ hy
  refine ⟨fun m hm => ?_, fun m hm e => ?_, fun m hm hlt => ?_⟩
  · by_cases e : m = a.frm
    · subst e; rw [updI_same]; unfold stepI; split <;> omega
    · rw [updI_other _ _ e]; exact h.pos m hm
  · by_cases e2 : m = a.frm
    · subst e2; rw [updI_same]; unfold stepI; rw [h.ends _ hm e]; split <;> omega
    · rw [updI_other _ _ e2]; exact h.ends m hm e
  · by_cases e : m = a.frm
    · subst e
      rw [updI_same] at hlt ⊢
      unfold stepI at hlt ⊢
      by_cases hq : f a.dst + costL (labT n a.tran) < f a.frm
      · rw [if_pos hq] at hlt ⊢
        obtain ⟨w, ⟨e1, h1, h2, h3⟩, h4⟩ := h.sound a.dst hy (by omega)
        by_cases h0 : labT n a.tran = 0
        · refine ⟨w, ⟨e1, h1, h2, (Way.arc0 ha h0).append h3⟩, ?_⟩
          unfold costL; rw [h0]; simp; exact h4
        · refine ⟨labT n a.tran :: w, ⟨e1, h1, h2, (Way.arc ha h0).append h3⟩, ?_⟩
          unfold costL; simp only [List.length_cons]; split <;> omega
      · rw [if_neg hq] at hlt ⊢
        exact h.sound _ hm hlt
    · rw [updI_other _ _ e] at hlt ⊢; exact h.sound m hm hlt
def sumI (N : Nat) (f : Nat → Int) : Nat := sumN (fun m => (f m).toNat) N
theorem sumI_less {N x : Nat} {f : Nat → Int} {t : Int} (hx : x < N) (ht : t < f x) (h0 : 0 ≤ t) : sumI N (updI f x t) < sumI N f := by
  refine sumN_lt (x := x) ?_ N hx fun m hm => ?_
  · rw [updI_same]; omega
  · by_cases e : m = x
    · subst e; rw [updI_same]; omega
    · rw [updI_other _ _ e]; exact Nat.le_refl _
/-- An arc that lessens nothing. -/
def LeastShut (n : NetL) (f : Nat → Int) (a : Int × Int × Int) : Prop := f a.1.toNat ≤ f a.2.2.toNat + costL (labT n a.2.1.toNat)
/-- These are the numbers. -/
structure LeastAll (n : NetL) (s : SpaceL) (E : List Int) (f : Nat → Int) : Prop where
  pos : ∀ m, m < s.marks.length → 0 ≤ f m ∧ f m ≤ 300
  sound : ∀ m, m < s.marks.length → f m < 300 → ∃ w, ToEnd n s E m w ∧ (w.length : Int) = f m
  least : ∀ m, m < s.marks.length → ∀ w, ToEnd n s E m w → f m ≤ w.length ∧ f m < 300
theorem LeastOk.done {n : NetL} {s : SpaceL} {E : List Int} {f : Nat → Int} (h : LeastOk n s E f) (hN : s.marks.length ≤ 300) (hA : ∀ a ∈ s.arcs, a.frm < s.marks.length ∧ a.dst < s.marks.length ∧ 0 ≤ labT n a.tran) (hs : ∀ a ∈ s.arcs.map arcZ, LeastShut n f a) : LeastAll n s E f := by
  have key : ∀ k m w e, m < s.marks.length → e < s.marks.length → markAt s.marks e = E → WayN s.arcs (labT n) k m w e → f m ≤ w.length := by
    intro k
    induction k with
    | zero =>
      intro m w e hm he hE hw
      obtain ⟨rfl, rfl⟩ := hw
      rw [h.ends m hm hE]; simp
    | succ k ih =>
      intro m w e hm he hE hw
      obtain ⟨a, ha, rfl, u, h1, rfl⟩ := hw
      obtain ⟨q1, q2, q3⟩ := hA a ha
      have h2 := ih a.dst u e q2 he hE h1
      have h3 : f a.frm ≤ f a.dst + costL (labT n a.tran) := by simpa [LeastShut, arcZ] using hs (arcZ a) (List.mem_map_of_mem ha)
      unfold costL at h3
      split
      · rename_i h0; rw [h0] at h3; simp at h3; omega
      · simp only [List.length_cons]; split at h3 <;> omega
  refine ⟨h.pos, h.sound, fun m hm w hw => ?_⟩
  obtain ⟨e, he, hE, k, hk⟩ := hw
  refine ⟨key k m w e hm he hE hk, ?_⟩
  obtain ⟨L, k', hB⟩ := best_of (E := fun e => e < s.marks.length ∧ markAt s.marks e = E) ⟨he, hE⟩ ⟨k, hk⟩
  have hL := hB.short (fun a ha => (hA a ha).2.1) hm
  obtain ⟨⟨w', e', ⟨he', hE'⟩, hl', hw'⟩, _⟩ := hB
  have := key k' m w' e' hm he' hE' hw'
  omega
theorem LeastAll.zero {n : NetL} {s : SpaceL} {E : List Int} {f : Nat → Int} (h : LeastAll n s E f) {m : Nat} (hm : m < s.marks.length) : f m = 0 ↔ ToEnd n s E m [] := by
  constructor
  · intro e
    obtain ⟨w, hw, hl⟩ := h.sound m hm (by omega)
    obtain rfl : w = [] := List.length_eq_zero_iff.1 (by omega)
    exact hw
  · intro hw
    have := (h.least m hm [] hw).1
    have := (h.pos m hm).1
    simp at *; omega

end Go.Proofs.YtakgppoeikcepaaDoor

/- What can be seen of a net, in memory; mayEnd. -/
namespace Go.Proofs.YtakgppoeikcepaaDoor
open Go.RowKit Go.Shelf
set_option linter.unusedVariables false
set_option maxRecDepth 4000

attribute [local go_sem] Oper.semAt_some

/-- All that can be seen of a net, plainly. -/
structure TalkL where
  n : Nat
  bg : SetL
  next : Nat → Nat → SetL
  least : List Int

structure TalkAt (w : World) (T bn : Nat) (lv : Value) (t : TalkL) : Prop where
  cells : w.heap[T]? = some (.cells #[.int .u64 (t.bg.at_ 0 : Nat), .int .u64 (t.bg.at_ 1 : Nat), .int .u64 (t.bg.at_ 2 : Nat), .int .u64 (t.bg.at_ 3 : Nat), .int .u64 (t.bg.at_ 4 : Nat), .slice (some ⟨bn, 0, none⟩) t.n t.n, lv] 71 (0, 0))
  next : ∀ m c, m < t.n → c < 27 → SetC w bn (m * 135 + c * 5) (t.next m c)
  least : Ints w lv t.least
  len : t.least.length = t.n
  small : t.n ≤ 300

theorem TalkAt.below {w w' : World} {T bn : Nat} {lv : Value} {t : TalkL} (h : TalkAt w T bn lv t) (hb : Below w.heap.size w w') : TalkAt w' T bn lv t :=
  ⟨(hb.block T (Array.getElem?_eq_some_iff.1 h.cells).1).trans h.cells, fun m c hm hc => (h.next m c hm hc).below hb, h.least.below hb, h.len, h.small⟩
theorem TalkAt.c5 {w : World} {T bn : Nat} {lv : Value} {t : TalkL} (h : TalkAt w T bn lv t) : w.cell? ⟨T, 5, none⟩ = some (.slice (some ⟨bn, 0, none⟩) t.n t.n) := by simp [World.cell?, h.cells]
theorem TalkAt.c6 {w : World} {T bn : Nat} {lv : Value} {t : TalkL} (h : TalkAt w T bn lv t) : w.cell? ⟨T, 6, none⟩ = some lv := by simp [World.cell?, h.cells]
theorem TalkAt.least_at {w : World} {T bn : Nat} {lv : Value} {t : TalkL} (h : TalkAt w T bn lv t) {m : Nat} (hm : m < t.n) : ∃ b off cap, lv = .slice (some ⟨b, off, none⟩) t.n cap ∧ b < w.heap.size ∧ w.cell? ⟨b, off + m, none⟩ = some (.int .i64 (nth t.least m)) := by
  obtain ⟨a, len, cap, e, hl, _, _, hr⟩ := h.least
  obtain ⟨b, off, ha, hlt, hc⟩ := hr m (by rw [h.len]; exact hm)
  exact ⟨b, off, cap, by rw [e, ha, ← hl, h.len], hlt, hc⟩

/-- Does one of these marks end without letters? -/
def endsT (t : TalkL) (at_ : SetL) (b : Bool) : Prop := b = true ↔ ∃ m, m < t.n ∧ at_.has m = true ∧ nth t.least m = 0

theorem boxesM (w : World) (v0 v2 : Value) (s : SetL) (t0 t2 : TypeId) : ∃ w3, Hid (((w.alloc (.cells #[v0] t0)).alloc (.cells #[.int .u64 (s.at_ 0 : Nat), .int .u64 (s.at_ 1 : Nat), .int .u64 (s.at_ 2 : Nat), .int .u64 (s.at_ 3 : Nat), .int .u64 (s.at_ 4 : Nat)] 68)).alloc (.cells #[v2] t2) = w3) ∧ Below w.heap.size w w3 ∧ w3.heap.size = w.heap.size + 3 ∧
    w3.cell? ⟨w.heap.size, 0, none⟩ = some v0 ∧ SetAt w3 (w.heap.size + 1) s ∧ w3.heap[w.heap.size + 2]? = some (.cells #[v2] t2 (0, 0)) := by
  refine ⟨_, rfl, below_then (below_then (below_new w _) (below_new _ _)) (below_new _ _), by simp, cell_alloc_k (cell_alloc_k (cell_new_k w v0 t0)), ?_, ?_⟩
  · have := (setAt_new (w.alloc (.cells #[v0] t0)) s).below (below_new _ (.cells #[v2] t2))
    simpa using this
  · have := heap_alloc_at ((w.alloc (.cells #[v0] t0)).alloc (.cells (setC s) 68)) (.cells #[v2] t2)
    simpa using this

set_option maxRecDepth 100000 in
set_option maxHeartbeats 2000000 in
theorem mayEnd_any (T bn : Nat) (lv : Value) (t : TalkL) (s : SetL) (w : World) (hT : TalkAt w T bn lv t) (hTab : Tab w) (hs : ∀ m, m < 320 → s.has m = true → m < t.n) :
    Calls Tryd.prog 22 #[.pointer (some ⟨T, 0, none⟩), setV s] w fun e w' => ∃ b, e = .returned (.bool b) ∧ endsT t s b ∧ Below w.heap.size w w' := by
  refine (callsIn_wide (n := 5)).1 ?_
  refine callsIn_of_wp_marks Tryd.func22 rfl trivial ?_ rfl
  simp only [Tryd.ntmps22, List.size_toArray, List.length_cons, List.length_nil, Nat.reduceAdd, Nat.reduceSub, Array.replicate_succ, Array.replicate_zero, List.push_toArray, List.append_toArray, List.nil_append, List.cons_append]
  refine wpIn_wide.2 ?_
  refine Code.wp_mono (fun e a w h => noPanicOut h) ?_
  obtain ⟨w3, Hw3, b3, hs3, c0, A1, hb2⟩ := boxesM w (.pointer (some ⟨T, 0, none⟩)) (.bool false) s 63 4
  obtain ⟨_, d0, d1, d2, d3, d4⟩ := A1.c
  simp only [Nat.zero_add] at d1 d2 d3 d4
  obtain ⟨q2c, q2f⟩ := box_cell hb2
  go_upto_region 1 with fail
  rw [Hw3.out]
  go_wp2
  have q0 := c0
  have b03 : Below w.heap.size w w3 := b3
  refine (wpIn_wide (n := 5)).1 ?_
  refine range_each (n := 5) (by omega) (s := s) rfl
    (fun pre W => ((∀ m ∈ pre, nth t.least m ≠ 0) ∧ W.cell? ⟨w.heap.size, 0, none⟩ = some (.pointer (some ⟨T, 0, none⟩)) ∧ W.cell? ⟨w.heap.size + 2, 0, none⟩ = some (.bool false) ∧ W.frozen? ⟨w.heap.size + 2, 0, none⟩ = false) ∧ Below w.heap.size w W)
    (fun c pre W => ((∃ m ∈ pre, nth t.least m = 0) ∧ W.cell? ⟨w.heap.size + 2, 0, none⟩ = some (.bool true)) ∧ Below w.heap.size w W)
    (OwnFrom.and (Go.Own.from (fun s A B row hs hg hr => ⟨hs.1, Go.cell_kept hs.2.1 hg hr, Go.cell_kept hs.2.2.1 hg hr, (Go.frozen_kept hs.2.2.1 hg hr).trans hs.2.2.2⟩) _) (ownFrom_below (Nat.le_refl _) (by omega)))
    (fun c => OwnFrom.and (Go.Own.from (fun s A B row hs hg hr => ⟨hs.1, Go.cell_kept hs.2 hg hr⟩) _) (ownFrom_below (Nat.le_refl _) (by omega)))
    ⟨⟨by simp, c0, q2c, q2f⟩, b3⟩ (fun pre W h => hTab.below h.2)
    (fun m => { tmps := #[.pointer (some ⟨T, 0, none⟩), setV s, .pointer (some ⟨w.heap.size, 0, none⟩), .pointer (some ⟨w.heap.size + 1, 0, none⟩), .pointer (some ⟨w.heap.size + 1 + 1, 0, none⟩), .int .i64 (m : Int), setV s, .func (.func 34) #[setV s] #[], .int .i64 (m : Int), undef, undef, undef, undef, undef, undef, undef, undef], defers := [] }) ?assign ?body ?done ?stop
  case assign =>
    intro l m W K hK
    gi_wp2
    exact hK
  case body =>
    rintro l pre m W hl ⟨⟨hp, hc0, hcr, hfr⟩, hB⟩ hm hhas
    have hmn := hs m hm hhas
    have hTW := hT.below hB
    have t6 := hTW.c6
    obtain ⟨b, off, cap, rfl, hlt, hcl⟩ := hTW.least_at hmn
    have hn300 := hT.small
    clear c0 A1 hb2 d0 d1 d2 d3 d4 q2c q2f q0
    by_cases hz : nth t.least m = 0
    · rw [hz] at hcl
      gi_wp2
      exact ⟨(KeepsOthers.setCell _ _ _).from _, ⟨⟨m, by simp, hz⟩, World.cell?_setCell_same' _ _ _ (by rw [hcr]; rfl)⟩, hB.setCell (p := ⟨w.heap.size + 2, 0, none⟩) (by simp) _⟩
    · have hz' : (nth t.least m == 0) = false := by simpa using hz
      gi_wp2
      exact ⟨KeepsFrom.refl _ _, ⟨fun x hx => by rcases List.mem_append.1 hx with h | h; exact hp x h; rw [List.mem_singleton.1 h]; exact hz, hc0, hcr, hfr⟩, hB⟩
  case done =>
    rintro D ys W hD hys ⟨⟨hne, _, hcr, hfr⟩, hB⟩ hK
    have R : Hid (endsT t s false) := ⟨fun h => (by cases h), fun ⟨m, h1, h2, h3⟩ => absurd h3 (hne m ((hys m).2 ⟨by have := hT.small; omega, h2⟩))⟩
    clear c0 A1 hb2 d0 d1 d2 d3 d4 q2c q2f q0 hne hys
    go_wp2
    have hK' := (KeepsOthers.setCell W ⟨w.heap.size + 2, 0, none⟩ (.bool false)).same D _ hK rfl
    refine ⟨by simp, .inl ⟨_, _, rfl, run_takeDeferred hK', ?_⟩⟩
    have hc5 := Go.cell_kept (World.cell?_setCell_same' W ⟨w.heap.size + 2, 0, none⟩ (.bool false) (by rw [hcr]; rfl)) (grownBy_putObj' _ D (.deferred none)) (fun r e => by cases e; exact ⟨_, hK', rfl⟩)
    refine ⟨.bool false, ?_, false, rfl, R.out, (hB.setCell (p := ⟨w.heap.size + 2, 0, none⟩) (by simp) _).trans (belowK_b (w := w) (Nat.le_refl _) _ D _ _ (by omega) hK' rfl rfl)⟩
    simp [results, Tryd.f22, go_sem, hc5]
  case stop =>
    rintro D pre W hD hpre ⟨⟨⟨m, hm, hz⟩, hcr⟩, hB⟩ hK
    have R : Hid (endsT t s true) := ⟨fun _ => ⟨m, hs m (hpre m hm).1 (hpre m hm).2, (hpre m hm).2, hz⟩, fun _ => rfl⟩
    refine ⟨by simp, .inl ⟨_, _, rfl, run_takeDeferred hK, ?_⟩⟩
    have hc5 := Go.cell_kept hcr (grownBy_putObj' _ D (.deferred none)) (fun r e => by cases e; exact ⟨_, hK, rfl⟩)
    refine ⟨.bool true, ?_, true, rfl, R.out, hB.trans (belowK_b (w := w) (Nat.le_refl _) W D _ _ (by omega) hK rfl rfl)⟩
    simp [results, Tryd.f22, go_sem, hc5]

end Go.Proofs.YtakgppoeikcepaaDoor

/- behind: where one can be behind a letter. -/
namespace Go.Proofs.YtakgppoeikcepaaDoor
open Go.RowKit Go.Shelf
set_option linter.unusedVariables false
set_option linter.unusedSimpArgs false
set_option maxRecDepth 4000

attribute [local go_sem] Oper.semAt_some

theorem SetAt.kept {W W' : World} {row : Option Nat} {b : Nat} {s : SetL} (h : SetAt W b s) (hg : W.grownBy W' row) (hr : ∀ r, row = some r → ∃ o : Obj, W.heap[r]? = some o ∧ o.isCells = false) : SetAt W' b s :=
  (hg.block b h.lt (fun e => by obtain ⟨o, h1, h2⟩ := hr b e.symm; rw [show W.heap[b]? = _ from h] at h1; cases h1; cases h2)).trans h

/-- Where one is behind a letter, of these marks. -/
def BehindT (t : TalkL) (s : SetL) (letter : Int) (u : SetL) : Prop := ∀ j, j < 320 → (u.has j = true ↔ 1 ≤ letter ∧ letter ≤ 26 ∧ ∃ m, m < t.n ∧ s.has m = true ∧ (t.next m letter.toNat).has j = true)

theorem boxesB (w : World) (v0 v2 : Value) (s : SetL) (t0 t2 : TypeId) : ∃ w5, Hid (((((w.alloc (.cells #[v0] t0)).alloc (.cells #[.int .u64 (s.at_ 0 : Nat), .int .u64 (s.at_ 1 : Nat), .int .u64 (s.at_ 2 : Nat), .int .u64 (s.at_ 3 : Nat), .int .u64 (s.at_ 4 : Nat)] 68)).alloc (.cells #[v2] t2)).alloc (.cells #[.int .u64 0, .int .u64 0, .int .u64 0, .int .u64 0, .int .u64 0] 68)).alloc (.cells #[.int .u64 0, .int .u64 0, .int .u64 0, .int .u64 0, .int .u64 0] 68) = w5) ∧ Below w.heap.size w w5 ∧ w5.heap.size = w.heap.size + 5 ∧
    w5.cell? ⟨w.heap.size, 0, none⟩ = some v0 ∧ SetAt w5 (w.heap.size + 1) s ∧ w5.cell? ⟨w.heap.size + 2, 0, none⟩ = some v2 ∧ SetAt w5 (w.heap.size + 3) noneS ∧ SetAt w5 (w.heap.size + 4) noneS := by
  obtain ⟨w3, H, b, hs, c0, A1, h2⟩ := boxesM w v0 v2 s t0 t2
  have b4 := below_new w3 (.cells #[.int .u64 0, .int .u64 0, .int .u64 0, .int .u64 0, .int .u64 0] 68)
  have b5 := below_new (w3.alloc (.cells #[.int .u64 0, .int .u64 0, .int .u64 0, .int .u64 0, .int .u64 0] 68)) (.cells #[.int .u64 0, .int .u64 0, .int .u64 0, .int .u64 0, .int .u64 0] 68)
  have a4 : SetAt (w3.alloc (.cells #[.int .u64 0, .int .u64 0, .int .u64 0, .int .u64 0, .int .u64 0] 68)) w3.heap.size noneS := setAt_new w3 noneS
  have a5 : SetAt ((w3.alloc (.cells #[.int .u64 0, .int .u64 0, .int .u64 0, .int .u64 0, .int .u64 0] 68)).alloc (.cells #[.int .u64 0, .int .u64 0, .int .u64 0, .int .u64 0, .int .u64 0] 68)) (w3.heap.size + 1) noneS := by
    have e : (w3.alloc (.cells #[.int .u64 0, .int .u64 0, .int .u64 0, .int .u64 0, .int .u64 0] 68)).heap.size = w3.heap.size + 1 := by simp
    have := setAt_new (w3.alloc (.cells #[.int .u64 0, .int .u64 0, .int .u64 0, .int .u64 0, .int .u64 0] 68)) noneS
    rw [e] at this
    exact this
  rw [H.out]
  rw [hs] at a4 a5
  have b45 := below_then b4 b5
  exact ⟨_, rfl, below_then b b45, by simp [hs], (b45.cell (p := ⟨w.heap.size, 0, none⟩) (show w.heap.size < w3.heap.size by omega)).trans c0, A1.below b45, (b45.cell (p := ⟨w.heap.size + 2, 0, none⟩) (show w.heap.size + 2 < w3.heap.size by omega)).trans (box_cell h2).1, a4.below b5, a5⟩

/-- What holds while marks are gone through. -/
structure BehindI (w : World) (T : Nat) (t : TalkL) (letter : Nat) (pre : List Nat) (W : World) : Prop where
  ex : ∃ u, SetAt W (w.heap.size + 4) u ∧ ∀ j, j < 320 → (u.has j = true ↔ ∃ m ∈ pre, (t.next m letter).has j = true)
  c0 : W.cell? ⟨w.heap.size, 0, none⟩ = some (.pointer (some ⟨T, 0, none⟩))
  c2 : W.cell? ⟨w.heap.size + 2, 0, none⟩ = some (.int .i64 (letter : Int))
  a3 : SetAt W (w.heap.size + 3) noneS
  below : Below w.heap.size w W

theorem behindI_own {w : World} {T : Nat} {t : TalkL} {letter : Nat} {B : Nat} (hB : w.heap.size ≤ B) : OwnFrom B (fun pre W => BehindI w T t letter pre W) := by
  intro pre W W' row hs hg hr
  obtain ⟨⟨u, h1, h2⟩, c0, c2, a3, hb⟩ := hs
  exact ⟨⟨u, h1.kept hg (fun r e => (hr r e).2), h2⟩, Go.cell_kept c0 hg (fun r e => (hr r e).2), Go.cell_kept c2 hg (fun r e => (hr r e).2), a3.kept hg (fun r e => (hr r e).2), ownFrom_below (β := List Nat) (Nat.le_refl _) hB pre W W' row hb hg hr⟩

set_option maxRecDepth 100000 in
set_option maxHeartbeats 4000000 in
theorem tbehind_any (T bn : Nat) (lv : Value) (t : TalkL) (s : SetL) (letter : Int) (w : World) (hT : TalkAt w T bn lv t) (hTab : Tab w) (hs : ∀ m, m < 320 → s.has m = true → m < t.n) :
    Calls Tryd.prog 20 #[.pointer (some ⟨T, 0, none⟩), setV s, .int .i64 letter] w fun e w' => ∃ u, e = .returned (setV u) ∧ BehindT t s letter u ∧ Below w.heap.size w w' := by
  refine (callsIn_wide (n := 5)).1 ?_
  refine callsIn_of_wp_marks Tryd.func20 rfl trivial ?_ rfl
  simp only [Tryd.ntmps20, List.size_toArray, List.length_cons, List.length_nil, Nat.reduceAdd, Nat.reduceSub, Array.replicate_succ, Array.replicate_zero, List.push_toArray, List.append_toArray, List.nil_append, List.cons_append]
  refine wpIn_wide.2 ?_
  refine Code.wp_mono (fun e a w h => noPanicOut h) ?_
  obtain ⟨w5, Hw5, b5, hs5, c0, A1, c2, A3, A4⟩ := boxesB w (.pointer (some ⟨T, 0, none⟩)) (.int .i64 letter) s 63 3
  go_upto_region 2 with fail
  rw [Hw5.out]
  clear Hw5
  by_cases hlet : 1 ≤ letter ∧ letter ≤ 26
  · obtain ⟨l, rfl⟩ := Int.eq_ofNat_of_zero_le (show 0 ≤ letter by omega)
    have t1 : decide ((l : Int) < 1) = false := by rw [decide_eq_false_iff_not]; omega
    have t2 : decide ((l : Int) > 26) = false := by rw [decide_eq_false_iff_not]; omega
    obtain ⟨_, d0, d1, d2, d3, d4⟩ := A1.c
    simp only [Nat.zero_add] at d1 d2 d3 d4
    go_wp2
    have hl26 : l < 27 := by omega
    refine (wpIn_wide (n := 5)).1 ?_
    refine range_each (n := 5) (by omega) (s := s) rfl (fun pre W => BehindI w T t l pre W) (fun c pre W => False) (behindI_own (by omega)) (fun c s A B row hs hg hr => hs)
      ⟨⟨noneS, A4, fun j hj => by rw [has_none]; simp⟩, c0, c2, A3, b5⟩ (fun pre W h => hTab.below h.below)
      (fun m => { tmps := #[.pointer (some ⟨T, 0, none⟩), setV s, .int .i64 (l : Int), .pointer (some ⟨w.heap.size, 0, none⟩), .pointer (some ⟨w.heap.size + 1, 0, none⟩), .pointer (some ⟨w.heap.size + 1 + 1, 0, none⟩), .pointer (some ⟨w.heap.size + 1 + 1 + 1, 0, none⟩), .pointer (some ⟨w.heap.size + 1 + 1 + 1 + 1, 0, none⟩), .int .i64 (m : Int), .int .i64 (l : Int), .bool false, .bool false, .int .i64 (l : Int), .bool false, .bool false, undef, setV s, .func (.func 34) #[setV s] #[], .int .i64 (m : Int), undef, undef, undef, undef, undef, undef, undef, undef, undef, undef, undef, undef], defers := [] }) ?assign ?body ?done ?stop
    case assign =>
      intro r m W K hK
      gi_wp2
      exact hK
    case body =>
      rintro r pre m W hr ⟨⟨u, hU, hu⟩, k0, k2, k3, hB⟩ hm hhas
      have hmn := hs m hm hhas
      have hTW := hT.below hB
      have t5 := hTW.c5
      have hn300 := hT.small
      obtain ⟨_, v0, v1, v2, v3, v4⟩ := hU.c
      simp only [Nat.zero_add] at v1 v2 v3 v4
      obtain ⟨_, n0, n1, n2, n3, n4⟩ := hTW.next m l hmn hl26
      clear c0 c2 A1 A3 A4 d0 d1 d2 d3 d4
      have Hall : Hid (∀ w' : World, Below w.heap.size w w' → w'.cell? ⟨w.heap.size, 0, none⟩ = W.cell? ⟨w.heap.size, 0, none⟩ → w'.cell? ⟨w.heap.size + 2, 0, none⟩ = W.cell? ⟨w.heap.size + 2, 0, none⟩ → (fun w' => w'.cell? ⟨w.heap.size, 0, none⟩ = some (.pointer (some ⟨T, 0, none⟩)) ∧ w'.cell? ⟨w.heap.size + 2, 0, none⟩ = some (.int .i64 (l : Int)) ∧ w'.cell? ⟨T, 5, none⟩ = some (.slice (some ⟨bn, 0, none⟩) t.n t.n) ∧ w'.cell? ⟨bn, m * 135 + l * 5, none⟩ = some (.int .u64 ((t.next m l).at_ 0 : Nat)) ∧ w'.cell? ⟨bn, m * 135 + l * 5 + 1, none⟩ = some (.int .u64 ((t.next m l).at_ 1 : Nat)) ∧ w'.cell? ⟨bn, m * 135 + l * 5 + 2, none⟩ = some (.int .u64 ((t.next m l).at_ 2 : Nat)) ∧ w'.cell? ⟨bn, m * 135 + l * 5 + 3, none⟩ = some (.int .u64 ((t.next m l).at_ 3 : Nat)) ∧ w'.cell? ⟨bn, m * 135 + l * 5 + 4, none⟩ = some (.int .u64 ((t.next m l).at_ 4 : Nat))) w') := fun w' hb e0 e2 => by
        have hTW' := hT.below hb
        obtain ⟨_, n0, n1, n2, n3, n4⟩ := hTW'.next m l hmn hl26
        exact ⟨e0.trans k0, e2.trans k2, hTW'.c5, n0, n1, n2, n3, n4⟩
      clear n0 n1 n2 n3 n4 t5
      gi_wp2
      refine region_round (S := (fun w' => w'.cell? ⟨w.heap.size, 0, none⟩ = some (.pointer (some ⟨T, 0, none⟩)) ∧ w'.cell? ⟨w.heap.size + 2, 0, none⟩ = some (.int .i64 (l : Int)) ∧ w'.cell? ⟨T, 5, none⟩ = some (.slice (some ⟨bn, 0, none⟩) t.n t.n) ∧ w'.cell? ⟨bn, m * 135 + l * 5, none⟩ = some (.int .u64 ((t.next m l).at_ 0 : Nat)) ∧ w'.cell? ⟨bn, m * 135 + l * 5 + 1, none⟩ = some (.int .u64 ((t.next m l).at_ 1 : Nat)) ∧ w'.cell? ⟨bn, m * 135 + l * 5 + 2, none⟩ = some (.int .u64 ((t.next m l).at_ 2 : Nat)) ∧ w'.cell? ⟨bn, m * 135 + l * 5 + 3, none⟩ = some (.int .u64 ((t.next m l).at_ 3 : Nat)) ∧ w'.cell? ⟨bn, m * 135 + l * 5 + 4, none⟩ = some (.int .u64 ((t.next m l).at_ 4 : Nat)))) (by kernel_rfl) (by kernel_rfl) (fun _ _ h => h) (Hall.out W.drew hB.drew rfl rfl) (fun hH => ?_)
      refine wpAnyH_take (i := 1) (v := .pointer (some ⟨T, 0, none⟩)) rfl (by kernel_rfl) (by kernel_rfl) (by kernel_rfl) (fun _ _ _ h => h) (.inl ⟨by rfl, fun w' hS' => by obtain ⟨s0, s2, s5, q0, q1, q2, q3, q4⟩ := hS'; go_simp⟩) hH ?_
      simp only [List.getElem_toArray, List.getElem_cons_succ, List.getElem_cons_zero, Act.put, List.setIfInBounds_toArray, List.set_cons_zero, List.set_cons_succ]
      refine wpAnyH_take (i := 2) (v := .pointer (some ⟨T, 0, none⟩)) rfl (by kernel_rfl) (by kernel_rfl) (by kernel_rfl) (fun _ _ _ h => h) (.inl ⟨by rfl, fun w' hS' => by first | (go_simp; done) | (go_simp; rfl) | (go_simp; intro h; omega)⟩) hH ?_
      simp only [List.getElem_toArray, List.getElem_cons_succ, List.getElem_cons_zero, Act.put, List.setIfInBounds_toArray, List.set_cons_zero, List.set_cons_succ]
      refine wpAnyH_take (i := 3) (v := .pointer (some ⟨T, 5, none⟩)) rfl (by kernel_rfl) (by kernel_rfl) (by kernel_rfl) (fun _ _ _ h => h) (.inl ⟨by rfl, fun w' hS' => by first | (go_simp; done) | (go_simp; rfl) | (go_simp; intro h; omega)⟩) hH ?_
      simp only [List.getElem_toArray, List.getElem_cons_succ, List.getElem_cons_zero, Act.put, List.setIfInBounds_toArray, List.set_cons_zero, List.set_cons_succ]
      refine wpAnyH_take (i := 4) (v := .slice (some ⟨bn, 0, none⟩) t.n t.n) rfl (by kernel_rfl) (by kernel_rfl) (by kernel_rfl) (fun _ _ _ h => h) (.inl ⟨by rfl, fun w' hS' => by obtain ⟨s0, s2, s5, q0, q1, q2, q3, q4⟩ := hS'; go_simp⟩) hH ?_
      simp only [List.getElem_toArray, List.getElem_cons_succ, List.getElem_cons_zero, Act.put, List.setIfInBounds_toArray, List.set_cons_zero, List.set_cons_succ]
      refine wpAnyH_take (i := 5) rfl (by kernel_rfl) (by kernel_rfl) (by kernel_rfl) (fun _ _ _ h => h) (.inl ⟨by rfl, fun _ _ => rfl⟩) hH ?_
      simp only [List.getElem_toArray, List.getElem_cons_succ, List.getElem_cons_zero, Act.put, List.setIfInBounds_toArray, List.set_cons_zero, List.set_cons_succ]
      refine wpAnyH_take (i := 6) (v := .int .i64 (l : Int)) rfl (by kernel_rfl) (by kernel_rfl) (by kernel_rfl) (fun _ _ _ h => h) (.inl ⟨by rfl, fun w' hS' => by obtain ⟨s0, s2, s5, q0, q1, q2, q3, q4⟩ := hS'; go_simp⟩) hH ?_
      simp only [List.getElem_toArray, List.getElem_cons_succ, List.getElem_cons_zero, Act.put, List.setIfInBounds_toArray, List.set_cons_zero, List.set_cons_succ]
      refine wpAnyH_take (i := 7) (v := .pointer (some ⟨bn, m * 135, none⟩)) rfl (by kernel_rfl) (by kernel_rfl) (by kernel_rfl) (fun _ _ _ h => h) (.inl ⟨by rfl, fun w' hS' => by first | (go_simp; done) | (go_simp; rfl) | (go_simp; intro h; omega)⟩) hH ?_
      simp only [List.getElem_toArray, List.getElem_cons_succ, List.getElem_cons_zero, Act.put, List.setIfInBounds_toArray, List.set_cons_zero, List.set_cons_succ]
      refine wpAnyH_take (i := 8) (v := .pointer (some ⟨bn, m * 135 + l * 5, none⟩)) rfl (by kernel_rfl) (by kernel_rfl) (by kernel_rfl) (fun _ _ _ h => h) (.inl ⟨by rfl, fun w' hS' => by first | (go_simp; done) | (go_simp; rfl) | (go_simp; intro h; omega)⟩) hH ?_
      simp only [List.getElem_toArray, List.getElem_cons_succ, List.getElem_cons_zero, Act.put, List.setIfInBounds_toArray, List.set_cons_zero, List.set_cons_succ]
      refine wpAnyH_take (i := 9) (v := setV (t.next m l)) rfl (by kernel_rfl) (by kernel_rfl) (by kernel_rfl) (fun _ _ _ h => h) (.inl ⟨by rfl, fun w' hS' => by obtain ⟨s0, s2, s5, q0, q1, q2, q3, q4⟩ := hS'; go_simp⟩) hH ?_
      simp only [List.getElem_toArray, List.getElem_cons_succ, List.getElem_cons_zero, Act.put, List.setIfInBounds_toArray, List.set_cons_zero, List.set_cons_succ]
      refine wpAnyH_ready (rs := [0]) (by kernel_rfl) (by simp) ?_
      refine AllReadyH.cons rfl (fun K hK => ?_) AllReadyH.nil
      simp only [List.getElem_toArray, List.getElem_cons_succ, List.getElem_cons_zero]
      rw [if_pos (by rfl)]
      go_wp2_with fail
      refine hK.out _ _ hH (fun hH => ?_)
      refine wpAnyH_ready (rs := [10]) (by kernel_rfl) (by simp) ?_
      refine AllReadyH.cons rfl (fun K hK => ?_) AllReadyH.nil
      simp only [List.getElem_toArray, List.getElem_cons_succ, List.getElem_cons_zero]
      rw [if_pos (by rfl)]
      go_wp2_with fail
      refine (or_any u (t.next m l) _).mono ?_
      rintro e w' ⟨rfl, bo⟩
      have hUw : SetAt w' (w.heap.size + 4) u := SetAt.below (w := W.drew) hU bo
      have hw' : Below w.heap.size w w' := hB.drew.trans (bo.mono hB.size)
      have hc0 : w'.cell? ⟨w.heap.size, 0, none⟩ = W.cell? ⟨w.heap.size, 0, none⟩ := bo.cell (p := ⟨w.heap.size, 0, none⟩) (cell_lt0 k0)
      have hc2 : w'.cell? ⟨w.heap.size + 2, 0, none⟩ = W.cell? ⟨w.heap.size + 2, 0, none⟩ := bo.cell (p := ⟨w.heap.size + 2, 0, none⟩) (cell_lt0 k2)
      refine hK.out _ _ (Hall.out w' hw' hc0 hc2) (fun hH => ?_)
      obtain ⟨_, p0, p1, p2, p3, p4⟩ := hUw.c
      simp only [Nat.zero_add] at p1 p2 p3 p4
      have f0 := hUw.frozen 0
      have f1 := hUw.frozen 1
      have f2 := hUw.frozen 2
      have f3 := hUw.frozen 3
      have f4 := hUw.frozen 4
      obtain ⟨W3, HW3, hS3, hB3, ho3, hz3⟩ := hUw.store (orS u (t.next m l))
      refine wpAnyH_ready (rs := [11]) (by kernel_rfl) (by simp) ?_
      refine AllReadyH.cons rfl (fun K hK => ?_) AllReadyH.nil
      simp only [List.getElem_toArray, List.getElem_cons_succ, List.getElem_cons_zero]
      rw [if_pos (by rfl)]
      go_wp2_with fail
      rw [HW3.out]
      have hc03 : W3.cell? ⟨w.heap.size, 0, none⟩ = W.cell? ⟨w.heap.size, 0, none⟩ := by rw [← hc0]; simp only [World.cell?]; rw [ho3 _ (by omega)]
      have hc23 : W3.cell? ⟨w.heap.size + 2, 0, none⟩ = W.cell? ⟨w.heap.size + 2, 0, none⟩ := by rw [← hc2]; simp only [World.cell?]; rw [ho3 _ (by omega)]
      have hb3 : Below w.heap.size w W3 := hw'.trans (hB3.mono (by omega))
      refine hK.out _ _ (Hall.out W3 hb3 hc03 hc23) (fun hH => ?_)
      refine wpAnyH_done (by kernel_rfl) ?_ _
      have hk3 : KeepsFrom w5.heap.size W W3 := by
        refine ⟨by rw [hz3]; exact bo.size, fun k o hk h1 h2 => ?_⟩
        have hkl : k < W.heap.size := (Array.getElem?_eq_some_iff.1 h1).1
        rw [ho3 k (by omega), bo.block k hkl]
        exact h1
      have hk3a : SetAt W3 (w.heap.size + 3) noneS := by
        have : SetAt w' (w.heap.size + 3) noneS := SetAt.below (w := W.drew) k3 bo
        exact (ho3 _ (by omega)).trans this
      refine ⟨hk3, ⟨_, hS3, fun j hj => ?_⟩, hc03.trans k0, hc23.trans k2, hk3a, hb3⟩
      rw [has_or, Bool.or_eq_true, hu j hj]
      constructor
      · rintro (⟨x, hx, hx2⟩ | hx)
        · exact ⟨x, List.mem_append_left _ hx, hx2⟩
        · exact ⟨m, List.mem_append_right _ (List.mem_singleton.2 rfl), hx⟩
      · rintro ⟨x, hx, hx2⟩
        rcases List.mem_append.1 hx with h | h
        · exact .inl ⟨x, h, hx2⟩
        · rw [List.mem_singleton.1 h] at hx2; exact .inr hx2
    case done =>
      rintro D ys W hD hys ⟨⟨u, hU, hu⟩, k0, k2, k3, hB⟩ hK
      have R : Hid (BehindT t s (l : Int) u) := fun j hj => by
        rw [hu j hj]
        constructor
        · rintro ⟨m, hm, h1⟩
          exact ⟨hlet.1, hlet.2, m, hs m ((hys m).1 hm).1 ((hys m).1 hm).2, ((hys m).1 hm).2, h1⟩
        · rintro ⟨_, _, m, h1, h2, h3⟩
          exact ⟨m, (hys m).2 ⟨by have := hT.small; omega, h2⟩, h3⟩
      obtain ⟨_, v0, v1, v2, v3, v4⟩ := hU.c
      obtain ⟨_, e0, e1, e2, e3, e4⟩ := k3.c
      simp only [Nat.zero_add] at v1 v2 v3 v4 e1 e2 e3 e4
      have f0 := k3.frozen 0
      have f1 := k3.frozen 1
      have f2 := k3.frozen 2
      have f3 := k3.frozen 3
      have f4 := k3.frozen 4
      obtain ⟨W3, HW3, hS3, hB3, ho3, hz3⟩ := k3.store u
      clear c0 c2 A1 A3 A4 d0 d1 d2 d3 d4 hys hu k0 k2
      go_wp2
      rw [HW3.out]
      have hK' : W3.heap[D]? = some (.deferred (some [])) := (ho3 D (by omega)).trans hK
      refine ⟨by simp, .inl ⟨_, _, rfl, run_takeDeferred hK', ?_⟩⟩
      have hS4 : SetAt (W3.putObj D (.deferred none)) (w.heap.size + 3) u := hS3.kept (grownBy_putObj' _ D (.deferred none)) (fun r e => by cases e; exact ⟨_, hK', rfl⟩)
      exact ⟨setV u, results_set rfl rfl hS4.c, u, rfl, R.out, (hB.trans (hB3.mono (by omega))).trans (belowK_b (w := w) (Nat.le_refl _) _ D _ _ (by omega) hK' rfl rfl)⟩
    case stop =>
      rintro D pre W hD hpre h hK
      exact h.elim
  · have R : Hid (BehindT t s letter noneS) := fun j hj => by rw [has_none]; constructor; intro h; cases h; rintro ⟨h1, h2, _⟩; omega
    obtain ⟨_, d0, d1, d2, d3, d4⟩ := A4.c
    obtain ⟨_, e0, e1, e2, e3, e4⟩ := A3.c
    simp only [Nat.zero_add] at d1 d2 d3 d4 e1 e2 e3 e4
    have f0 := A3.frozen 0
    have f1 := A3.frozen 1
    have f2 := A3.frozen 2
    have f3 := A3.frozen 3
    have f4 := A3.frozen 4
    obtain ⟨W, HW, hS, hBW, _, _⟩ := A3.store noneS
    have B : Below w.heap.size w W := b5.trans (hBW.mono (by omega))
    by_cases h1 : letter < 1
    · have t1 : decide (letter < 1) = true := by simpa using h1
      go_wp2
      rw [HW.out]
      exact ⟨setV noneS, results_set rfl rfl hS.c, noneS, rfl, R.out, B⟩
    · have t1 : decide (letter < 1) = false := by simpa using h1
      have t2 : decide (letter > 26) = true := by rw [decide_eq_true_eq]; omega
      clear h1
      go_wp2
      rw [HW.out]
      exact ⟨setV noneS, results_set rfl rfl hS.c, noneS, rfl, R.out, B⟩

end Go.Proofs.YtakgppoeikcepaaDoor
