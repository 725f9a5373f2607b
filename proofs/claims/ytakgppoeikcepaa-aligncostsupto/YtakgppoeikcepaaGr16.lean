import Derived.Test.YtakgppoeikcepaaTongMem
import Derived.Test.YtakgppoeikcepaaGr01
import Derived.Test.YtakgppoeikcepaaGr00
import Derived.Laws.Bits64b
/- Rows of sets in memory. -/
namespace Go.Proofs.Ytakgppoeikcepaa
open Go.RowKit
set_option linter.unusedVariables false
set_option maxRecDepth 4000

/-- A row of n sets, five words each. -/
structure SetRow (w : World) (B n : Nat) (f : Nat → SetL) : Prop where
  cells : ∀ m j, m < n → j < 5 → w.cell? ⟨B, m * 5 + j, none⟩ = some (.int .u64 ((f m).at_ j : Nat))
  frozen : ∀ i, i < n * 5 → w.frozen? ⟨B, i, none⟩ = false
  lt : B < w.heap.size

theorem SetRow.c {w : World} {B n : Nat} {f : Nat → SetL} (h : SetRow w B n f) {m : Nat} (hm : m < n) : SetC w B (m * 5) (f m) :=
  ⟨h.lt, by simpa using h.cells m 0 hm (by omega), h.cells m 1 hm (by omega), h.cells m 2 hm (by omega), h.cells m 3 hm (by omega), h.cells m 4 hm (by omega)⟩
theorem SetRow.below {w w' : World} {B n : Nat} {f : Nat → SetL} (h : SetRow w B n f) (hb : Below w.heap.size w w') : SetRow w' B n f :=
  ⟨fun m j hm hj => (hb.cell (p := ⟨B, _, none⟩) h.lt).trans (h.cells m j hm hj), fun i hi => (hb.frozen (p := ⟨B, _, none⟩) h.lt).trans (h.frozen i hi), Nat.lt_of_lt_of_le h.lt hb.size⟩
theorem SetRow.keep {w w' : World} {B n : Nat} {f : Nat → SetL} (h : SetRow w B n f) (hs : w.heap.size ≤ w'.heap.size) (hb : w'.heap[B]? = w.heap[B]?) : SetRow w' B n f := by
  refine ⟨fun m j hm hj => ?_, fun i hi => ?_, Nat.lt_of_lt_of_le h.lt hs⟩
  · have := h.cells m j hm hj; simp only [World.cell?] at this ⊢; rw [hb]; exact this
  · have := h.frozen i hi; simp only [World.frozen?] at this ⊢; rw [hb]; exact this
theorem SetRow.same {w : World} {B n : Nat} {f g : Nat → SetL} (h : SetRow w B n f) (hg : ∀ m, m < n → f m = g m) : SetRow w B n g := ⟨fun m j hm hj => by rw [← hg m hm]; exact h.cells m j hm hj, h.frozen, h.lt⟩
theorem SetRow.sameS {w : World} {B n : Nat} {f g : Nat → SetL} (h : SetRow w B n f) (hg : ∀ m, m < n → SameS (f m) (g m)) : SetRow w B n g := ⟨fun m j hm hj => by rw [← hg m hm j hj]; exact h.cells m j hm hj, h.frozen, h.lt⟩
/-- One set is written over. -/
theorem SetRow.put1 {w : World} {B n m j : Nat} {f g : Nat → SetL} (h : SetRow w B n f) (hm : m < n) (hj : j < 5) {x : Nat} (hx : (g m).at_ j = x) (ho : ∀ m' j', m' < n → j' < 5 → (m' ≠ m ∨ j' ≠ j) → (g m').at_ j' = (f m').at_ j') :
    SetRow (w.setCell ⟨B, m * 5 + j, none⟩ (.int .u64 (x : Int))) B n g := by
  refine ⟨fun m' j' hm' hj' => ?_, fun i hi => by rw [World.frozen?_setCell]; exact h.frozen i hi, by simpa [World.setCell] using h.lt⟩
  by_cases e : m' = m ∧ j' = j
  · obtain ⟨rfl, rfl⟩ := e
    rw [World.cell?_setCell_same _ _ _ (h.cells m' j' hm' hj'), hx]
  · rw [World.cell?_setCell_other _ _ _ _ (by intro q; injection q with _ q2; apply e; omega), h.cells m' j' hm' hj', ho m' j' hm' hj' (by omega)]
def updS (f : Nat → SetL) (m : Nat) (t : SetL) : Nat → SetL := fun k => if k = m then t else f k
theorem updS_same (f : Nat → SetL) (m : Nat) (t : SetL) : updS f m t m = t := by simp [updS]
theorem updS_other (f : Nat → SetL) {m k : Nat} (t : SetL) (h : k ≠ m) : updS f m t k = f k := by simp [updS, h]
/-- The first j words of t, the others of s. -/
def mixS (s t : SetL) (j : Nat) : SetL := ⟨fun k => if k < j then t.at_ k else s.at_ k, fun k => by split; exact t.fit k; exact s.fit k⟩
theorem SetRow.store {w : World} {B n m : Nat} {f : Nat → SetL} (h : SetRow w B n f) (hm : m < n) (t : SetL) :
    ∃ W, Hid (((((w.setCell ⟨B, m * 5, none⟩ (.int .u64 (t.at_ 0 : Nat))).setCell ⟨B, m * 5 + 1, none⟩ (.int .u64 (t.at_ 1 : Nat))).setCell ⟨B, m * 5 + 2, none⟩ (.int .u64 (t.at_ 2 : Nat))).setCell ⟨B, m * 5 + 3, none⟩ (.int .u64 (t.at_ 3 : Nat))).setCell ⟨B, m * 5 + 4, none⟩ (.int .u64 (t.at_ 4 : Nat)) = W) ∧ SetRow W B n (updS f m t) ∧ Below B w W ∧ (∀ k, k ≠ B → W.heap[k]? = w.heap[k]?) ∧ W.heap.size = w.heap.size := by
  refine ⟨_, rfl, ?_, ?_, ?_, by simp [World.setCell]⟩
  · have key : ∀ j W, j < 5 → SetRow W B n (updS f m (mixS (f m) t j)) → SetRow (W.setCell ⟨B, m * 5 + j, none⟩ (.int .u64 (t.at_ j : Nat))) B n (updS f m (mixS (f m) t (j + 1))) := by
      intro j W hj hW
      refine hW.put1 hm hj (by rw [updS_same]; simp [mixS]) (fun m' j' h1 h2 h3 => ?_)
      by_cases e : m' = m
      · subst e
        rw [updS_same, updS_same]
        simp only [mixS]
        have : (j' < j + 1) ↔ (j' < j) := by omega
        simp only [this]
      · rw [updS_other _ _ e, updS_other _ _ e]
    have h0 : SetRow w B n (updS f m (mixS (f m) t 0)) := h.same fun k hk => by
      by_cases e : k = m
      · subst e; rw [updS_same]; rfl
      · rw [updS_other _ _ e]
    have h5 := key 4 _ (by omega) (key 3 _ (by omega) (key 2 _ (by omega) (key 1 _ (by omega) (key 0 _ (by omega) h0))))
    refine ⟨fun m' j' h1 h2 => ?_, h5.frozen, h5.lt⟩
    have := h5.cells m' j' h1 h2
    rw [show (m * 5 + 0) = m * 5 from rfl] at this
    rw [this]
    by_cases e : m' = m
    · subst e; rw [updS_same, updS_same]; simp [mixS, h2]
    · rw [updS_other _ _ e, updS_other _ _ e]
  · exact (((((Below.refl B w).setCell (p := ⟨B, _, none⟩) (Nat.le_refl _) _).setCell (p := ⟨B, _, none⟩) (Nat.le_refl _) _).setCell (p := ⟨B, _, none⟩) (Nat.le_refl _) _).setCell (p := ⟨B, _, none⟩) (Nat.le_refl _) _).setCell (p := ⟨B, _, none⟩) (Nat.le_refl _) _
  · intro k hk
    rw [Below.heap_setCell _ _ _ _ (by exact hk), Below.heap_setCell _ _ _ _ (by exact hk), Below.heap_setCell _ _ _ _ (by exact hk), Below.heap_setCell _ _ _ _ (by exact hk), Below.heap_setCell _ _ _ _ (by exact hk)]

theorem info_marks : (Try.prog.info? 77).map (fun i => (i.zero, i.size, i.bytes)) = some (some (.agg #[.int .u64 0, .int .u64 0, .int .u64 0, .int .u64 0, .int .u64 0]), 5, 40) := by kernel_rfl

theorem made_const {z : Array Value} {v : Value} (h0 : 0 < z.size) (hz : ∀ (j : Nat) (h : j < z.size), z[j] = v) {n i : Nat} (hi : i < n) : (madeCells z n)[i]? = some v := by
  have hm : i % z.size < z.size := Nat.mod_lt _ h0
  simp only [madeCells, Array.getElem?_map, Array.getElem?_range, hi, if_true, Option.map_some]
  rw [getElem!_pos z _ hm, hz _ hm]
theorem zeros5 : ∀ (j : Nat) (h : j < (#[Value.int .u64 0, .int .u64 0, .int .u64 0, .int .u64 0, .int .u64 0] : Array Value).size), (#[Value.int .u64 0, .int .u64 0, .int .u64 0, .int .u64 0, .int .u64 0] : Array Value)[j] = .int .u64 0 := by
  intro j h
  obtain rfl | rfl | rfl | rfl | rfl : j = 0 ∨ j = 1 ∨ j = 2 ∨ j = 3 ∨ j = 4 := by simp at h; omega
  all_goals rfl

theorem make_sets (w : World) (n : Nat) (hn : n ≤ 300) :
    ∃ w1, (Instr.makeSlice 95 (.int .i64 (n : Int)) (.int .i64 (n : Int))).run Try.prog w = .ok (.slice (some ⟨w.heap.size, 0, none⟩) n n) w1 ∧
      Below w.heap.size w w1 ∧ w1.heap.size = w.heap.size + 1 ∧ SetRow w1 w.heap.size n (fun _ => noneS) := by
  obtain ⟨i0, hi, hz0, hz1, hz2⟩ := info_parts info_marks
  have h := run_make (P := Try.prog) w 95 77 i0 _ Try.underlying95 hi hz0 .i64 .i64 n n (by omega) (by omega) (by rw [hz2]; omega) (by omega)
  simp only [Int.toNat_natCast] at h
  refine ⟨_, h, (Below.refl _ _).alloc (Nat.le_refl _) _, by simp, ⟨fun m j hm hj => ?_, fun j hj => ?_, by simp⟩⟩
  · rw [World.cell?_alloc_at _ _ _ _ rfl]
    exact made_const (z := #[Value.int .u64 0, .int .u64 0, .int .u64 0, .int .u64 0, .int .u64 0]) (by decide) zeros5 (by rw [hz1]; omega)
  · exact World.frozen?_alloc_at _ _ _ _ rfl

theorem info_letters : (Try.prog.info? 100).map (fun i => (i.zero, i.size, i.bytes)) = some (some (.agg (Array.replicate 135 (.int .u64 0))), 135, 1080) := by kernel_rfl

theorem make_letters (w : World) (n : Nat) (hn : n ≤ 300) :
    ∃ w1, (Instr.makeSlice 78 (.int .i64 (n : Int)) (.int .i64 (n : Int))).run Try.prog w = .ok (.slice (some ⟨w.heap.size, 0, none⟩) n n) w1 ∧
      Below w.heap.size w w1 ∧ w1.heap.size = w.heap.size + 1 ∧ SetRow w1 w.heap.size (n * 27) (fun _ => noneS) := by
  obtain ⟨i0, hi, hz0, hz1, hz2⟩ := info_parts info_letters
  have h := run_make (P := Try.prog) w 78 100 i0 _ Try.underlying78 hi hz0 .i64 .i64 n n (by omega) (by omega) (by rw [hz2]; omega) (by omega)
  simp only [Int.toNat_natCast] at h
  refine ⟨_, h, (Below.refl _ _).alloc (Nat.le_refl _) _, by simp, ⟨fun m j hm hj => ?_, fun j hj => ?_, by simp⟩⟩
  · rw [World.cell?_alloc_at _ _ _ _ rfl]
    exact made_const (z := Array.replicate 135 (Value.int .u64 0)) (by rw [Array.size_replicate]; omega) (fun j hj => by rw [Array.getElem_replicate]; rfl) (by rw [hz1]; omega)
  · exact World.frozen?_alloc_at _ _ _ _ rfl

end Go.Proofs.Ytakgppoeikcepaa

/- The marks of a set, one after the other: math/bits.TrailingZeros64, and package tongue's own iterator. -/
namespace Go.Proofs.Ytakgppoeikcepaa
open Go.RowKit Go.Shelf
set_option linter.unusedVariables false
set_option maxRecDepth 4000

attribute [local go_sem] Oper.semAt_some

/-- The library's table lies where it does at the start. -/
def Tab (w : World) : Prop := 0 < w.heap.size ∧ ∀ j, j < 64 → w.cell? ⟨0, j, none⟩ = some (.int .u8 (Lib.deBruijn64tab.getD j 0))
theorem Tab.below {w w' : World} (h : Tab w) (hb : Below w.heap.size w w') : Tab w' := ⟨Nat.lt_of_lt_of_le h.1 hb.size, fun j hj => (hb.cell (p := ⟨0, j, none⟩) h.1).trans (h.2 j hj)⟩
theorem Tab.at {w w' : World} (h : Tab w) (hs : w.heap.size ≤ w'.heap.size) (hb : w'.heap[0]? = w.heap[0]?) : Tab w' := ⟨Nat.lt_of_lt_of_le h.1 hs, fun j hj => by have := h.2 j hj; simp only [World.cell?] at this ⊢; rw [hb]; exact this⟩

/-- What has come: of the words ahead of k all, of word k what is no longer in x. -/
structure EachP (s : SetL) (k x j : Nat) (pre : List Nat) : Prop where
  mem : ∀ m, m ∈ pre ↔ m < 320 ∧ s.has m = true ∧ (m / 64 < k ∨ m / 64 = k ∧ x.testBit (m % 64) = false)
  low : ∀ i, x.testBit i = true → j ≤ i ∧ i < 64 ∧ (s.at_ k).testBit i = true
  len : pre.length ≤ 64 * k + j
  fit : x < 18446744073709551616

theorem EachP.start (s : SetL) : EachP s 0 (s.at_ 0) 0 [] := by
  refine ⟨fun m => ?_, fun i hi => ⟨Nat.zero_le _, ?_, hi⟩, by simp, s.fit 0⟩
  · simp only [List.not_mem_nil, false_iff, not_and, not_or]
    intro h1 h2
    refine ⟨by omega, fun h3 => ?_⟩
    unfold SetL.has at h2
    rw [h3] at h2
    rw [h2]
    simp
  · rcases Nat.lt_or_ge i 64 with h | h
    · exact h
    · rw [Nat.testBit_lt_two_pow (Nat.lt_of_lt_of_le (s.fit 0) (Nat.le_trans (by decide : 18446744073709551616 ≤ 2 ^ 64) (Nat.pow_le_pow_right (by omega) h)))] at hi
      cases hi
theorem EachP.next {s : SetL} {k j : Nat} {pre : List Nat} (hk : k < 5) (hj : j ≤ 64) (h : EachP s k 0 j pre) : EachP s (k + 1) (s.at_ (k + 1)) 0 pre := by
  refine ⟨fun m => ?_, fun i hi => ⟨Nat.zero_le _, ?_, hi⟩, by have := h.len; omega, s.fit _⟩
  · rw [h.mem]
    constructor
    · rintro ⟨h1, h2, h3⟩
      exact ⟨h1, h2, .inl (by omega)⟩
    · rintro ⟨h1, h2, h3 | ⟨h3, h4⟩⟩
      · exact ⟨h1, h2, by rcases Nat.lt_or_ge (m / 64) k with q | q; exact .inl q; exact .inr ⟨by omega, by simp⟩⟩
      · unfold SetL.has at h2
        rw [h3, h4] at h2
        cases h2
  · rcases Nat.lt_or_ge i 64 with h | h
    · exact h
    · rw [Nat.testBit_lt_two_pow (Nat.lt_of_lt_of_le (s.fit _) (Nat.le_trans (by decide : 18446744073709551616 ≤ 2 ^ 64) (Nat.pow_le_pow_right (by omega) h)))] at hi
      cases hi
/-- One more: the lowest bit. -/
theorem EachP.take {s : SetL} {k x j : Nat} {pre : List Nat} (hk : k < 5) (h : EachP s k x j pre) (hx : x ≠ 0) : ∃ b, Lib.ctz 64 x = b ∧ b < 64 ∧ s.has (k * 64 + b) = true ∧ pre.length < 320 ∧ x &&& (x - 1) < x ∧ EachP s k (x &&& (x - 1)) (b + 1) (pre ++ [k * 64 + b]) := by
  obtain ⟨b, hb, hb64, hbit, hlow, hnew⟩ := low_bit (x := x) (by omega) h.fit
  obtain ⟨q1, q2, q3⟩ := h.low b hbit
  have hl := h.len
  have hlt : x &&& (x - 1) < x := Nat.lt_of_le_of_lt Nat.and_le_right (by omega)
  have hd : (k * 64 + b) / 64 = k := by omega
  have hm : (k * 64 + b) % 64 = b := by omega
  refine ⟨b, hb, hb64, ?_, by omega, hlt, fun m => ?_, fun i hi => ?_, by simp; omega, by have := h.fit; omega⟩
  · unfold SetL.has; rw [hd, hm]; exact q3
  · rw [List.mem_append, h.mem, List.mem_singleton]
    constructor
    · rintro (⟨h1, h2, h3⟩ | rfl)
      · refine ⟨h1, h2, ?_⟩
        rcases h3 with h3 | ⟨h3, h4⟩
        · exact .inl h3
        · exact .inr ⟨h3, by rw [hnew, h4]; rfl⟩
      · exact ⟨by omega, by unfold SetL.has; rw [hd, hm]; exact q3, .inr ⟨hd, by rw [hnew, hm]; simp⟩⟩
    · rintro ⟨h1, h2, h3⟩
      by_cases e : m = k * 64 + b
      · exact .inr e
      · refine .inl ⟨h1, h2, ?_⟩
        rcases h3 with h3 | ⟨h3, h4⟩
        · exact .inl h3
        · refine .inr ⟨h3, ?_⟩
          rw [hnew] at h4
          have : m % 64 ≠ b := by omega
          simpa [this] using h4
  · rw [hnew] at hi
    simp only [Bool.and_eq_true, decide_eq_true_eq] at hi
    obtain ⟨h1, h2⟩ := hi
    obtain ⟨r1, r2, r3⟩ := h.low i h1
    refine ⟨?_, r2, r3⟩
    rcases Nat.lt_or_ge i b with q | q
    · rw [hlow i q] at h1; cases h1
    · omega
theorem EachP.done {s : SetL} {x : Nat} {pre : List Nat} {j : Nat} (h : EachP s 5 x j pre) : ∀ m, m ∈ pre ↔ m < 320 ∧ s.has m = true := by
  intro m
  rw [h.mem]
  exact ⟨fun h => ⟨h.1, h.2.1⟩, fun h => ⟨h.1, h.2, .inl (by omega)⟩⟩
theorem EachP.sub {s : SetL} {k x j : Nat} {pre : List Nat} (h : EachP s k x j pre) : ∀ m ∈ pre, m < 320 ∧ s.has m = true := fun m hm => ⟨((h.mem m).1 hm).1, ((h.mem m).1 hm).2.1⟩

end Go.Proofs.Ytakgppoeikcepaa

/- A loop over the marks of a set: 'for m := range s.each', where 'each' is a method that has its receiver with it. -/
namespace Go.Proofs.Ytakgppoeikcepaa
open Go.RowKit Go.Shelf
set_option linter.unusedVariables false
set_option maxRecDepth 4000

/-- How a round may be left. -/
def roundK (B : Nat) (I : List Nat → World → Prop) (Ix : Code → List Nat → World → Prop) (xs : List Nat) (W : World) : Exit → Act → World → Prop
  | .normal, _, W' => KeepsFrom B W W' ∧ I xs W'
  | .ret, _, W' => KeepsFrom B W W' ∧ Ix .ret xs W'
  | _, _, _ => False

end Go.Proofs.Ytakgppoeikcepaa
