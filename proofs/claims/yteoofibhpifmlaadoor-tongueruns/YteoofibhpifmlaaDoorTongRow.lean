/- Rows of sets in memory. -/
import Derived.Test.YteoofibhpifmlaaDoorTongMem
import Derived.Test.YteoofibhpifmlaaDoorMarked
import Derived.Test.YteoofibhpifmlaaDoorFlags
import Derived.Test.YteoofibhpifmlaaDoorBoolRow
namespace Go.Proofs.YteoofibhpifmlaaDoor
open Go.RowKit
set_option linter.unusedVariables false
set_option maxRecDepth 4000

/-- A row of n sets, five words each. -/
structure SetRow (w : World) (B n : Nat) (f : Nat → SetL) : Prop where
  cells : ∀ m j, m < n → j < 5 → w.cell? ⟨B, m * 5 + j, none⟩ = some (.int .u64 ((f m).at_ j : Nat))
  frozen : ∀ i, i < n * 5 → w.frozen? ⟨B, i, none⟩ = false
  lt : B < w.heap.size

theorem SetRow.c {w : World} {B n : Nat} {f : Nat → SetL} (h : SetRow w B n f) {m : Nat} (hm : m < n) : SetC w B (m * 5) (f m) :=
  ⟨h.lt, by simpa using h.cells m 0 hm (by omega), h.cells m 1 hm (by omega), h.cells m 2 hm (by omega), h.cells m 3 hm (by omega), h.cells m 4 hm (by omega)⟩
theorem SetRow.below {w w' : World} {B n : Nat} {f : Nat → SetL} (h : SetRow w B n f) (hb : Below w.heap.size w w') : SetRow w' B n f :=
  ⟨fun m j hm hj => (hb.cell (p := ⟨B, _, none⟩) h.lt).trans (h.cells m j hm hj), fun i hi => (hb.frozen (p := ⟨B, _, none⟩) h.lt).trans (h.frozen i hi), Nat.lt_of_lt_of_le h.lt hb.size⟩
theorem SetRow.keep {w w' : World} {B n : Nat} {f : Nat → SetL} (h : SetRow w B n f) (hs : w.heap.size ≤ w'.heap.size) (hb : w'.heap[B]? = w.heap[B]?) : SetRow w' B n f := by
  refine ⟨fun m j hm hj => ?_, fun i hi => ?_, Nat.lt_of_lt_of_le h.lt hs⟩
  · have := h.cells m j hm hj; simp only [World.cell?] at this ⊢; rw [hb]; exact this
  · have := h.frozen i hi; simp only [World.frozen?] at this ⊢; rw [hb]; exact this
theorem SetRow.same {w : World} {B n : Nat} {f g : Nat → SetL} (h : SetRow w B n f) (hg : ∀ m, m < n → f m = g m) : SetRow w B n g := ⟨fun m j hm hj => by rw [← hg m hm]; exact h.cells m j hm hj, h.frozen, h.lt⟩
theorem SetRow.sameS {w : World} {B n : Nat} {f g : Nat → SetL} (h : SetRow w B n f) (hg : ∀ m, m < n → SameS (f m) (g m)) : SetRow w B n g := ⟨fun m j hm hj => by rw [← hg m hm j hj]; exact h.cells m j hm hj, h.frozen, h.lt⟩
/-- One set is written over. -/
theorem SetRow.put1 {w : World} {B n m j : Nat} {f g : Nat → SetL} (h : SetRow w B n f) (hm : m < n) (hj : j < 5) {x : Nat} (hx : (g m).at_ j = x) (ho : ∀ m' j', m' < n → j' < 5 → (m' ≠ m ∨ j' ≠ j) → (g m').at_ j' = (f m').at_ j') :
    SetRow (w.setCell ⟨B, m * 5 + j, none⟩ (.int .u64 (x : Int))) B n g := by
  refine ⟨fun m' j' hm' hj' => ?_, fun i hi => by rw [World.frozen?_setCell]; exact h.frozen i hi, by simpa [World.setCell] using h.lt⟩
  by_cases e : m' = m ∧ j' = j
  · obtain ⟨rfl, rfl⟩ := e
    rw [World.cell?_setCell_same _ _ _ (h.cells m' j' hm' hj'), hx]
  · rw [World.cell?_setCell_other _ _ _ _ (by intro q; injection q with _ q2; apply e; omega), h.cells m' j' hm' hj', ho m' j' hm' hj' (by omega)]
def updS (f : Nat → SetL) (m : Nat) (t : SetL) : Nat → SetL := fun k => if k = m then t else f k
theorem updS_same (f : Nat → SetL) (m : Nat) (t : SetL) : updS f m t m = t := by simp [updS]
theorem updS_other (f : Nat → SetL) {m k : Nat} (t : SetL) (h : k ≠ m) : updS f m t k = f k := by simp [updS, h]
/-- The first j words of t, the others of s. -/
def mixS (s t : SetL) (j : Nat) : SetL := ⟨fun k => if k < j then t.at_ k else s.at_ k, fun k => by split; exact t.fit k; exact s.fit k⟩
theorem SetRow.store {w : World} {B n m : Nat} {f : Nat → SetL} (h : SetRow w B n f) (hm : m < n) (t : SetL) :
    ∃ W, Hid (((((w.setCell ⟨B, m * 5, none⟩ (.int .u64 (t.at_ 0 : Nat))).setCell ⟨B, m * 5 + 1, none⟩ (.int .u64 (t.at_ 1 : Nat))).setCell ⟨B, m * 5 + 2, none⟩ (.int .u64 (t.at_ 2 : Nat))).setCell ⟨B, m * 5 + 3, none⟩ (.int .u64 (t.at_ 3 : Nat))).setCell ⟨B, m * 5 + 4, none⟩ (.int .u64 (t.at_ 4 : Nat)) = W) ∧ SetRow W B n (updS f m t) ∧ Below B w W ∧ (∀ k, k ≠ B → W.heap[k]? = w.heap[k]?) ∧ W.heap.size = w.heap.size := by
  refine ⟨_, rfl, ?_, ?_, ?_, by simp [World.setCell]⟩
  · have key : ∀ j W, j < 5 → SetRow W B n (updS f m (mixS (f m) t j)) → SetRow (W.setCell ⟨B, m * 5 + j, none⟩ (.int .u64 (t.at_ j : Nat))) B n (updS f m (mixS (f m) t (j + 1))) := by
      intro j W hj hW
      refine hW.put1 hm hj (by rw [updS_same]; simp [mixS]) (fun m' j' h1 h2 h3 => ?_)
      by_cases e : m' = m
      · subst e
        rw [updS_same, updS_same]
        simp only [mixS]
        have : (j' < j + 1) ↔ (j' < j) := by omega
        simp only [this]
      · rw [updS_other _ _ e, updS_other _ _ e]
    have h0 : SetRow w B n (updS f m (mixS (f m) t 0)) := h.same fun k hk => by
      by_cases e : k = m
      · subst e; rw [updS_same]; rfl
      · rw [updS_other _ _ e]
    have h5 := key 4 _ (by omega) (key 3 _ (by omega) (key 2 _ (by omega) (key 1 _ (by omega) (key 0 _ (by omega) h0))))
    refine ⟨fun m' j' h1 h2 => ?_, h5.frozen, h5.lt⟩
    have := h5.cells m' j' h1 h2
    rw [show (m * 5 + 0) = m * 5 from rfl] at this
    rw [this]
    by_cases e : m' = m
    · subst e; rw [updS_same, updS_same]; simp [mixS, h2]
    · rw [updS_other _ _ e, updS_other _ _ e]
  · exact (((((Below.refl B w).setCell (p := ⟨B, _, none⟩) (Nat.le_refl _) _).setCell (p := ⟨B, _, none⟩) (Nat.le_refl _) _).setCell (p := ⟨B, _, none⟩) (Nat.le_refl _) _).setCell (p := ⟨B, _, none⟩) (Nat.le_refl _) _).setCell (p := ⟨B, _, none⟩) (Nat.le_refl _) _
  · intro k hk
    rw [Below.heap_setCell _ _ _ _ (by exact hk), Below.heap_setCell _ _ _ _ (by exact hk), Below.heap_setCell _ _ _ _ (by exact hk), Below.heap_setCell _ _ _ _ (by exact hk), Below.heap_setCell _ _ _ _ (by exact hk)]

theorem info_marks : (Tryd.prog.info? 48).map (fun i => (i.zero, i.size, i.bytes)) = some (some (.agg #[.int .u64 0, .int .u64 0, .int .u64 0, .int .u64 0, .int .u64 0]), 5, 40) := by kernel_rfl

theorem made_const {z : Array Value} {v : Value} (h0 : 0 < z.size) (hz : ∀ (j : Nat) (h : j < z.size), z[j] = v) {n i : Nat} (hi : i < n) : (madeCells z n)[i]? = some v := by
  have hm : i % z.size < z.size := Nat.mod_lt _ h0
  simp only [madeCells, Array.getElem?_map, Array.getElem?_range, hi, if_true, Option.map_some]
  rw [getElem!_pos z _ hm, hz _ hm]
theorem zeros5 : ∀ (j : Nat) (h : j < (#[Value.int .u64 0, .int .u64 0, .int .u64 0, .int .u64 0, .int .u64 0] : Array Value).size), (#[Value.int .u64 0, .int .u64 0, .int .u64 0, .int .u64 0, .int .u64 0] : Array Value)[j] = .int .u64 0 := by
  intro j h
  obtain rfl | rfl | rfl | rfl | rfl : j = 0 ∨ j = 1 ∨ j = 2 ∨ j = 3 ∨ j = 4 := by simp at h; omega
  all_goals rfl

theorem make_sets (w : World) (n : Nat) (hn : n ≤ 300) :
    ∃ w1, (Instr.makeSlice 80 (.int .i64 (n : Int)) (.int .i64 (n : Int))).run Tryd.prog w = .ok (.slice (some ⟨w.heap.size, 0, none⟩) n n) w1 ∧
      Below w.heap.size w w1 ∧ w1.heap.size = w.heap.size + 1 ∧ SetRow w1 w.heap.size n (fun _ => noneS) := by
  obtain ⟨i0, hi, hz0, hz1, hz2⟩ := info_parts info_marks
  have h := run_make (P := Tryd.prog) w 80 48 i0 _ Tryd.underlying80 hi hz0 .i64 .i64 n n (by omega) (by omega) (by rw [hz2]; omega) (by omega)
  simp only [Int.toNat_natCast] at h
  refine ⟨_, h, (Below.refl _ _).alloc (Nat.le_refl _) _, by simp, ⟨fun m j hm hj => ?_, fun j hj => ?_, by simp⟩⟩
  · rw [World.cell?_alloc_at _ _ _ _ rfl]
    exact made_const (z := #[Value.int .u64 0, .int .u64 0, .int .u64 0, .int .u64 0, .int .u64 0]) (by decide) zeros5 (by rw [hz1]; omega)
  · exact World.frozen?_alloc_at _ _ _ _ rfl

theorem info_letters : (Tryd.prog.info? 85).map (fun i => (i.zero, i.size, i.bytes)) = some (some (.agg (Array.replicate 135 (.int .u64 0))), 135, 1080) := by kernel_rfl

theorem make_letters (w : World) (n : Nat) (hn : n ≤ 300) :
    ∃ w1, (Instr.makeSlice 49 (.int .i64 (n : Int)) (.int .i64 (n : Int))).run Tryd.prog w = .ok (.slice (some ⟨w.heap.size, 0, none⟩) n n) w1 ∧
      Below w.heap.size w w1 ∧ w1.heap.size = w.heap.size + 1 ∧ SetRow w1 w.heap.size (n * 27) (fun _ => noneS) := by
  obtain ⟨i0, hi, hz0, hz1, hz2⟩ := info_parts info_letters
  have h := run_make (P := Tryd.prog) w 49 85 i0 _ Tryd.underlying49 hi hz0 .i64 .i64 n n (by omega) (by omega) (by rw [hz2]; omega) (by omega)
  simp only [Int.toNat_natCast] at h
  refine ⟨_, h, (Below.refl _ _).alloc (Nat.le_refl _) _, by simp, ⟨fun m j hm hj => ?_, fun j hj => ?_, by simp⟩⟩
  · rw [World.cell?_alloc_at _ _ _ _ rfl]
    exact made_const (z := Array.replicate 135 (Value.int .u64 0)) (by rw [Array.size_replicate]; omega) (fun j hj => by rw [Array.getElem_replicate]; rfl) (by rw [hz1]; omega)
  · exact World.frozen?_alloc_at _ _ _ _ rfl

end Go.Proofs.YteoofibhpifmlaaDoor
