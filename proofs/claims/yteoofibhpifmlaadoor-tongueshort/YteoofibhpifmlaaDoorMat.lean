/- Who comes where: a square of yes and no, plainly and in memory. -/
import Derived.Test.YteoofibhpifmlaaDoorLiveMem
import Derived.Test.YteoofibhpifmlaaDoorBoolRow
import Derived.Test.YteoofibhpifmlaaDoorFlags
namespace Go.Proofs.YteoofibhpifmlaaDoor
open Go.RowKit
set_option linter.unusedVariables false
set_option maxRecDepth 4000

/-! ### plainly -/
def upd2 (M : Nat → Nat → Bool) (k b : Nat) : Nat → Nat → Bool := fun i j => if i = k ∧ j = b then true else M i j
def falF (M : Nat → Nat → Bool) (n : Nat) : Nat → Nat
  | 0 => 0
  | i + 1 => falF M n i + cntF (M i) n

theorem falF_same {M N : Nat → Nat → Bool} (n : Nat) : ∀ (i : Nat), (∀ k, k < i → ∀ j, N k j = M k j) → falF N n i = falF M n i
  | 0, _ => rfl
  | i + 1, h => by
    simp only [falF]
    rw [falF_same n i fun k hk => h k (by omega), cntF_same n fun j _ => h i (by omega) j]
theorem falF_set {M : Nat → Nat → Bool} {k b n : Nat} (hb : b < n) (hf : M k b = false) : ∀ (i : Nat), k < i → falF (upd2 M k b) n i + 1 = falF M n i
  | 0, h => absurd h (Nat.not_lt_zero _)
  | i + 1, h => by
    simp only [falF]
    by_cases e : k = i
    · subst e
      rw [falF_same n k fun x hx j => by unfold upd2; rw [if_neg (by omega)]]
      have := cntF_set (f := M k) (g := upd2 M k b k) (b := b) hf (by unfold upd2; simp) (fun j hj => by unfold upd2; rw [if_neg (by omega)]) n hb
      omega
    · have h1 := falF_set hb hf i (by omega)
      have h2 : cntF (upd2 M k b i) n = cntF (M i) n := cntF_same n fun j _ => by unfold upd2; rw [if_neg (by omega)]
      omega

structure MatOk (s : SpaceZ) (M : Nat → Nat → Bool) : Prop where
  refl : ∀ i : Nat, M i i = true
  sound : ∀ i j : Nat, i < s.marks.length → j < s.marks.length → M i j = true → Comes s i j
theorem MatOk.start (s : SpaceZ) : MatOk s (fun i j => decide (i = j)) :=
  ⟨fun i => by simp, fun i j _ _ h => by have : i = j := by simpa using h
                                         subst this; exact .here _⟩
theorem MatOk.put {s : SpaceZ} {M : Nat → Nat → Bool} (h : MatOk s M) {k f b : Nat} {y : Int} (hk : k < s.marks.length) (hf : f < s.marks.length) (ha : ((f : Int), y, (b : Int)) ∈ s.arcs) (hM : M k f = true) : MatOk s (upd2 M k b) := by
  refine ⟨fun i => ?_, fun i j hi hj hij => ?_⟩
  · unfold upd2
    split
    · rfl
    · exact h.refl i
  · unfold upd2 at hij
    split at hij
    · rename_i e
      obtain ⟨rfl, rfl⟩ := e
      exact Comes.go (a := ((f : Int), y, (j : Int))) (h.sound i f hk hf hM) ha
    · exact h.sound i j hi hj hij

/-- The first p arcs, and of the next one the first k rows, bring nothing new. -/
def ShutTo (s : SpaceZ) (M : Nat → Nat → Bool) (p k : Nat) : Prop :=
  ∀ q (hq : q < s.arcs.length) (f b i : Nat), s.arcs[q].1 = f → s.arcs[q].2.2 = b → i < s.marks.length → (q < p ∨ q = p ∧ i < k) → M i f = true → M i b = true
def Pass (s : SpaceZ) (M0 M : Nat → Nat → Bool) (again : Bool) (p k : Nat) : Prop :=
  MatOk s M ∧ if again then falF M s.marks.length s.marks.length < falF M0 s.marks.length s.marks.length else M = M0 ∧ ShutTo s M0 p k

theorem Pass.start {s : SpaceZ} {M : Nat → Nat → Bool} (h : MatOk s M) : Pass s M M false 0 0 :=
  ⟨h, rfl, fun q _ _ _ _ _ _ _ h => by omega⟩
theorem Pass.next {s : SpaceZ} {M0 M : Nat → Nat → Bool} {again : Bool} {p k : Nat} (h : Pass s M0 M again p k) (hk : s.marks.length ≤ k) : Pass s M0 M again (p + 1) 0 := by
  refine ⟨h.1, ?_⟩
  have h2 := h.2
  cases again
  · exact ⟨h2.1, fun q hq f b i e1 e2 hi hqp => h2.2 q hq f b i e1 e2 hi (by omega)⟩
  · exact h2
theorem Pass.skip {s : SpaceZ} {M0 M : Nat → Nat → Bool} {again : Bool} {p k f b : Nat} {y : Int} (h : Pass s M0 M again p k) (hp : p < s.arcs.length) (ha : s.arcs[p] = ((f : Int), y, (b : Int))) (hM : M k f = true → M k b = true) : Pass s M0 M again p (k + 1) := by
  refine ⟨h.1, ?_⟩
  have h2 := h.2
  cases again
  · refine ⟨h2.1, fun q hq f' b' i e1 e2 hi hqp => ?_⟩
    by_cases e : q = p ∧ i = k
    · obtain ⟨rfl, rfl⟩ := e
      rw [ha] at e1 e2
      simp only at e1 e2
      obtain rfl : f = f' := by omega
      obtain rfl : b = b' := by omega
      rw [← h2.1]
      exact hM
    · exact h2.2 q hq f' b' i e1 e2 hi (by omega)
  · exact h2
theorem Pass.put {s : SpaceZ} {M0 M : Nat → Nat → Bool} {again : Bool} {p k f b : Nat} {y : Int} (h : Pass s M0 M again p k) (hp : p < s.arcs.length) (ha : s.arcs[p] = ((f : Int), y, (b : Int))) (hk : k < s.marks.length) (hf : f < s.marks.length) (hb : b < s.marks.length)
    (h1 : M k f = true) (h2 : M k b = false) : Pass s M0 (upd2 M k b) true p (k + 1) := by
  refine ⟨h.1.put (y := y) hk hf (by rw [← ha]; exact List.getElem_mem hp) h1, ?_⟩
  show _ < _
  have e := falF_set (M := M) hb h2 s.marks.length hk
  have h3 := h.2
  cases again
  · obtain ⟨e1, _⟩ := h3
    subst e1
    omega
  · have h3 : falF M s.marks.length s.marks.length < falF M0 s.marks.length s.marks.length := h3
    omega

def IsReach (s : SpaceZ) (M : Nat → Nat → Bool) : Prop := ∀ i j : Nat, i < s.marks.length → j < s.marks.length → (M i j = true ↔ Comes s i j)
theorem Pass.reach {s : SpaceZ} {M0 M : Nat → Nat → Bool} {p : Nat} (hr : rightS s = true) (h : Pass s M0 M false p 0) (hp : s.arcs.length ≤ p) : IsReach s M := by
  obtain ⟨hok, rfl, hs⟩ := h
  intro i j hi hj
  refine ⟨hok.sound i j hi hj, fun hc => ?_⟩
  have key : ∀ {x y : Int}, Comes s x y → x = (i : Int) → ∃ g : Nat, y = g ∧ g < s.marks.length ∧ M i g = true := by
    intro x y hc
    induction hc using Comes.ind with
    | here => intro e; subst e; exact ⟨i, rfl, hi, hok.refl i⟩
    | go h1 h2 ih =>
      intro e
      obtain ⟨g, eg, hg, hM⟩ := ih e
      obtain ⟨q, hq, rfl⟩ := List.getElem_of_mem h2
      obtain ⟨_, _, r1, r2⟩ := rightS_iff.1 hr _ h2
      obtain ⟨b, eb⟩ := Int.eq_ofNat_of_zero_le r1
      exact ⟨b, eb, by omega, hs q hq g b i eg eb hi (by omega) hM⟩
  obtain ⟨g, eg, _, hM⟩ := key hc rfl
  obtain rfl : j = g := by omega
  exact hM

/-! ### in memory -/
structure MatAt (b : Nat) (w wr : World) (n : Nat) (rb : Nat → Nat) (k : Nat) (M : Nat → Nat → Bool) : Prop where
  rows : ∀ i, i < k → wr.cell? ⟨b, i, none⟩ = some (.slice (some ⟨rb i, 0, none⟩) n n)
  outer : ∀ i, i < n → (∃ u, wr.cell? ⟨b, i, none⟩ = some u) ∧ wr.frozen? ⟨b, i, none⟩ = false
  cells : ∀ i j, i < k → j < n → wr.cell? ⟨rb i, j, none⟩ = some (.bool (M i j))
  frozen : ∀ i j, i < k → j < n → wr.frozen? ⟨rb i, j, none⟩ = false
  newer : ∀ i, i < k → b < rb i ∧ rb i < wr.heap.size
  inj : ∀ i j, i < k → j < k → rb i = rb j → i = j
  below : Below b w wr
  size : b < wr.heap.size

theorem MatAt.to {b : Nat} {w wr w2 : World} {n : Nat} {rb : Nat → Nat} {k : Nat} {M : Nat → Nat → Bool} (h : MatAt b w wr n rb k M) (hb : Below wr.heap.size wr w2) : MatAt b w w2 n rb k M :=
  ⟨fun i hi => by rw [hb.cell (p := ⟨b, i, none⟩) h.size]; exact h.rows i hi,
   fun i hi => ⟨by rw [hb.cell (p := ⟨b, i, none⟩) h.size]; exact (h.outer i hi).1, by rw [hb.frozen (p := ⟨b, i, none⟩) h.size]; exact (h.outer i hi).2⟩,
   fun i j hi hj => by rw [hb.cell (p := ⟨rb i, j, none⟩) (h.newer i hi).2]; exact h.cells i j hi hj,
   fun i j hi hj => by rw [hb.frozen (p := ⟨rb i, j, none⟩) (h.newer i hi).2]; exact h.frozen i j hi hj,
   fun i hi => ⟨(h.newer i hi).1, Nat.lt_of_lt_of_le (h.newer i hi).2 hb.size⟩, h.inj, h.below.trans (hb.mono (Nat.le_of_lt h.size)), Nat.lt_of_lt_of_le h.size hb.size⟩

theorem MatAt.put {b : Nat} {w wr : World} {n : Nat} {rb : Nat → Nat} {k : Nat} {M : Nat → Nat → Bool} (h : MatAt b w wr n rb k M) {i j : Nat} (hi : i < k) (hj : j < n) : MatAt b w (wr.setCell ⟨rb i, j, none⟩ (.bool true)) n rb k (upd2 M i j) := by
  have ne : ∀ x, (⟨rb i, j, none⟩ : Addr) ≠ ⟨b, x, none⟩ := fun x e => by have := (h.newer i hi).1; injection e with e1 _; omega
  refine ⟨fun x hx => by rw [World.cell?_setCell_other _ _ _ _ (ne x)]; exact h.rows x hx, fun x hx => ⟨by rw [World.cell?_setCell_other _ _ _ _ (ne x)]; exact (h.outer x hx).1, by rw [World.frozen?_setCell]; exact (h.outer x hx).2⟩, fun x y hx hy => ?_,
    fun x y hx hy => by rw [World.frozen?_setCell]; exact h.frozen x y hx hy, fun x hx => ⟨(h.newer x hx).1, by simpa [World.setCell] using (h.newer x hx).2⟩, h.inj, h.below.setCell (Nat.le_of_lt (h.newer i hi).1) _, by simpa [World.setCell] using h.size⟩
  by_cases e : x = i ∧ y = j
  · obtain ⟨rfl, rfl⟩ := e
    rw [World.cell?_setCell_same _ _ _ (h.cells x y hx hy)]
    simp [upd2]
  · rw [World.cell?_setCell_other _ _ _ _ (by intro q; injection q with q1 q2; exact e ⟨(h.inj i x hi hx q1).symm, q2.symm⟩), h.cells x y hx hy]
    simp [upd2, e]

theorem info_bools : (Tryd.prog.info? 59).map (fun i => (i.zero, i.size, i.bytes)) = some (some (.slice none 0 0), 1, 24) := by kernel_rfl

theorem make_bools (w : World) (n : Nat) (hn : n ≤ 5864062014805) :
    ∃ w1, (Instr.makeSlice 59 (.int .i64 (n : Int)) (.int .i64 (n : Int))).run Tryd.prog w = .ok (.slice (some ⟨w.heap.size, 0, none⟩) n n) w1 ∧
      Below w.heap.size w w1 ∧ w.heap.size < w1.heap.size ∧ ∀ j, j < n → w1.cell? ⟨w.heap.size, j, none⟩ = some (.bool false) ∧ w1.frozen? ⟨w.heap.size, j, none⟩ = false := by
  obtain ⟨i0, hi, hz0, hz1, hz2⟩ := info_parts info_bool
  have h := run_make (P := Tryd.prog) w 59 4 i0 (.bool false) Tryd.underlying59 hi hz0 .i64 .i64 n n (by omega) (by omega) (by rw [hz2]; omega) (by omega)
  simp only [Int.toNat_natCast] at h
  refine ⟨_, h, (Below.refl _ _).alloc (Nat.le_refl _) _, by simp, fun j hj => ⟨?_, ?_⟩⟩
  · rw [World.cell?_alloc_at _ _ _ _ rfl]
    simp [madeCells, hz1, Value.cells, hj, Nat.mod_one]
  · exact World.frozen?_alloc_at _ _ _ _ rfl
theorem make_rows (w : World) (n : Nat) (hn : n ≤ 5864062014805) :
    ∃ w1, (Instr.makeSlice 60 (.int .i64 (n : Int)) (.int .i64 (n : Int))).run Tryd.prog w = .ok (.slice (some ⟨w.heap.size, 0, none⟩) n n) w1 ∧
      Below w.heap.size w w1 ∧ w.heap.size < w1.heap.size ∧ ∀ j, j < n → w1.cell? ⟨w.heap.size, j, none⟩ = some (.slice none 0 0) ∧ w1.frozen? ⟨w.heap.size, j, none⟩ = false := by
  obtain ⟨i0, hi, hz0, hz1, hz2⟩ := info_parts info_bools
  have h := run_make (P := Tryd.prog) w 60 59 i0 (.slice none 0 0) Tryd.underlying60 hi hz0 .i64 .i64 n n (by omega) (by omega) (by rw [hz2]; omega) (by omega)
  simp only [Int.toNat_natCast] at h
  refine ⟨_, h, (Below.refl _ _).alloc (Nat.le_refl _) _, by simp, fun j hj => ⟨?_, ?_⟩⟩
  · rw [World.cell?_alloc_at _ _ _ _ rfl]
    simp [madeCells, hz1, Value.cells, hj, Nat.mod_one]
  · exact World.frozen?_alloc_at _ _ _ _ rfl

theorem matAt_new {w w1 : World} {n : Nat} (hb : Below w.heap.size w w1) (hs : w.heap.size < w1.heap.size) (hc : ∀ j, j < n → w1.cell? ⟨w.heap.size, j, none⟩ = some (.slice none 0 0) ∧ w1.frozen? ⟨w.heap.size, j, none⟩ = false) (rb : Nat → Nat) (M : Nat → Nat → Bool) :
    MatAt w.heap.size w w1 n rb 0 M :=
  ⟨fun i hi => absurd hi (Nat.not_lt_zero _), fun i hi => ⟨⟨_, (hc i hi).1⟩, (hc i hi).2⟩, fun i j hi => absurd hi (Nat.not_lt_zero _), fun i j hi => absurd hi (Nat.not_lt_zero _), fun i hi => absurd hi (Nat.not_lt_zero _), fun i j hi => absurd hi (Nat.not_lt_zero _), hb, hs⟩

/-- One more row, with a yes where it meets itself. -/
theorem MatAt.grow {b : Nat} {w wr w2 : World} {n : Nat} {rb : Nat → Nat} {k : Nat} (h : MatAt b w wr n rb k (fun i j => decide (i = j))) (hk : k < n) (hb : Below wr.heap.size wr w2) (hs : wr.heap.size < w2.heap.size)
    (hc : ∀ j, j < n → w2.cell? ⟨wr.heap.size, j, none⟩ = some (.bool false) ∧ w2.frozen? ⟨wr.heap.size, j, none⟩ = false) :
    MatAt b w ((w2.setCell ⟨b, k, none⟩ (.slice (some ⟨wr.heap.size, 0, none⟩) n n)).setCell ⟨wr.heap.size, k, none⟩ (.bool true)) n (fun i => if i = k then wr.heap.size else rb i) (k + 1) (fun i j => decide (i = j)) := by
  have h2 := h.to hb
  have hbs := h.size
  have nb : ∀ x y, (⟨wr.heap.size, x, none⟩ : Addr) ≠ ⟨b, y, none⟩ := fun x y e => by injection e with e1 _; omega
  have nr : ∀ i, i < k → ∀ x y, (⟨wr.heap.size, x, none⟩ : Addr) ≠ ⟨rb i, y, none⟩ := fun i hi x y e => by have := (h.newer i hi).2; injection e with e1 _; omega
  have no : ∀ i, i < k → ∀ x y, (⟨b, x, none⟩ : Addr) ≠ ⟨rb i, y, none⟩ := fun i hi x y e => by have := (h.newer i hi).1; injection e with e1 _; omega
  refine ⟨fun i hi => ?_, fun i hi => ?_, fun i j hi hj => ?_, fun i j hi hj => ?_, fun i hi => ?_, fun i j hi hj e => ?_, (h2.below.setCell (Nat.le_refl _) _).setCell (Nat.le_of_lt hbs) _, by simpa [World.setCell] using h2.size⟩
  · rw [World.cell?_setCell_other _ _ _ _ (nb _ _)]
    by_cases e : i = k
    · subst e
      obtain ⟨u, hu⟩ := (h2.outer i hk).1
      rw [World.cell?_setCell_same _ _ _ hu, if_pos rfl]
    · rw [World.cell?_setCell_other _ _ _ _ (by intro q; injection q with _ q2; omega), if_neg e]
      exact h2.rows i (by omega)
  · refine ⟨?_, by rw [World.frozen?_setCell, World.frozen?_setCell]; exact (h2.outer i hi).2⟩
    rw [World.cell?_setCell_other _ _ _ _ (nb _ _)]
    by_cases e : i = k
    · subst e
      obtain ⟨u, hu⟩ := (h2.outer i hk).1
      exact ⟨_, World.cell?_setCell_same _ _ _ hu⟩
    · rw [World.cell?_setCell_other _ _ _ _ (by intro q; injection q with _ q2; omega)]
      exact (h2.outer i hi).1
  · by_cases e : i = k
    · subst e
      simp only [if_true]
      by_cases e2 : j = i
      · subst e2
        rw [World.cell?_setCell_same (u := .bool false) _ _ _ (by rw [World.cell?_setCell_other _ _ _ _ (fun q => nb _ _ q.symm)]; exact (hc j hj).1)]
        simp
      · rw [World.cell?_setCell_other _ _ _ _ (by intro q; injection q with _ q2; omega), World.cell?_setCell_other _ _ _ _ (fun q => nb _ _ q.symm), (hc j hj).1]
        have : ¬ i = j := by omega
        simp [this]
    · simp only [if_neg e]
      rw [World.cell?_setCell_other _ _ _ _ (nr i (by omega) _ _), World.cell?_setCell_other _ _ _ _ (no i (by omega) _ _)]
      exact h2.cells i j (by omega) hj
  · rw [World.frozen?_setCell, World.frozen?_setCell]
    by_cases e : i = k
    · simp only [if_pos e]; exact (hc j hj).2
    · simp only [if_neg e]; exact h2.frozen i j (by omega) hj
  · by_cases e : i = k
    · simp only [if_pos e]; exact ⟨hbs, by simpa [World.setCell] using hs⟩
    · simp only [if_neg e]; exact ⟨(h2.newer i (by omega)).1, by simpa [World.setCell] using (h2.newer i (by omega)).2⟩
  · by_cases e1 : i = k
    · by_cases e2 : j = k
      · omega
      · simp only [if_pos e1, if_neg e2] at e
        have := (h.newer j (by omega)).2
        omega
    · by_cases e2 : j = k
      · simp only [if_neg e1, if_pos e2] at e
        have := (h.newer i (by omega)).2
        omega
      · simp only [if_neg e1, if_neg e2] at e
        exact h.inj i j (by omega) (by omega) e

theorem box3_put {w : World} {b : Nat} {x y z u : Value} {p : Addr} (h : Box3 w b x y z) (hp : p.block ≠ b) : Box3 (w.setCell p u) b x y z := by
  have ne : ∀ j, (⟨b, j, none⟩ : Addr) ≠ p := fun j e => hp (by rw [← e])
  refine ⟨by simpa [World.setCell] using h.1, ?_, ?_, ?_⟩
  · rw [World.cell?_setCell_other _ _ _ _ (Ne.symm (ne 0))]; exact h.2.1
  · rw [World.cell?_setCell_other _ _ _ _ (Ne.symm (ne 1))]; exact h.2.2.1
  · rw [World.cell?_setCell_other _ _ _ _ (Ne.symm (ne 2))]; exact h.2.2.2

/-- As it is read. -/
structure MatR (w : World) (b n : Nat) (rb : Nat → Nat) (M : Nat → Nat → Bool) : Prop where
  lt : b < w.heap.size
  rows : ∀ i, i < n → w.cell? ⟨b, i, none⟩ = some (.slice (some ⟨rb i, 0, none⟩) n n)
  rlt : ∀ i, i < n → rb i < w.heap.size
  cells : ∀ i j, i < n → j < n → w.cell? ⟨rb i, j, none⟩ = some (.bool (M i j))
theorem MatR.below {w w' : World} {b n : Nat} {rb : Nat → Nat} {M : Nat → Nat → Bool} (h : MatR w b n rb M) (hb : Below w.heap.size w w') : MatR w' b n rb M :=
  ⟨Nat.lt_of_lt_of_le h.lt hb.size, fun i hi => by rw [hb.cell (p := ⟨b, i, none⟩) h.lt]; exact h.rows i hi, fun i hi => Nat.lt_of_lt_of_le (h.rlt i hi) hb.size, fun i j hi hj => by rw [hb.cell (p := ⟨rb i, j, none⟩) (h.rlt i hi)]; exact h.cells i j hi hj⟩
theorem MatAt.read {b : Nat} {w wr : World} {n : Nat} {rb : Nat → Nat} {M : Nat → Nat → Bool} (h : MatAt b w wr n rb n M) : MatR wr b n rb M :=
  ⟨h.size, h.rows, fun i hi => (h.newer i hi).2, h.cells⟩

end Go.Proofs.YteoofibhpifmlaaDoor
