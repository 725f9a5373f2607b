/- A row of yes and no, as it stands in memory. -/
import Derived.Test.YteoofibhpifmlaaDoorOwn
namespace Go.Proofs.YteoofibhpifmlaaDoor
open Go.RowKit
set_option linter.unusedVariables false
set_option maxRecDepth 4000

/-- A row of yes and no that is being written. -/
structure BoolRow (w : World) (B n : Nat) (f : Nat → Bool) : Prop where
  cells : ∀ j, j < n → w.cell? ⟨B, j, none⟩ = some (.bool (f j))
  frozen : ∀ j, j < n → w.frozen? ⟨B, j, none⟩ = false
  lt : B < w.heap.size
theorem BoolRow.put {w : World} {B n k : Nat} {f g : Nat → Bool} (h : BoolRow w B n f) (hk : k < n) {x : Bool} (hx : g k = x) (hg : ∀ j, j < n → j ≠ k → g j = f j) : BoolRow (w.setCell ⟨B, k, none⟩ (.bool x)) B n g := by
  refine ⟨fun j hj => ?_, fun j hj => by rw [World.frozen?_setCell]; exact h.frozen j hj, by simpa [World.setCell] using h.lt⟩
  by_cases e : j = k
  · subst e
    rw [World.cell?_setCell_same _ _ _ (h.cells j hj), hx]
  · rw [World.cell?_setCell_other _ _ _ _ (by intro q; apply e; injection q with _ q2; exact q2.symm), h.cells j hj, hg j hj e]
theorem BoolRow.other {w : World} {B C n k : Nat} {f : Nat → Bool} (h : BoolRow w B n f) (hne : C ≠ B) (x : Value) : BoolRow (w.setCell ⟨C, k, none⟩ x) B n f := by
  refine ⟨fun j hj => ?_, fun j hj => by rw [World.frozen?_setCell]; exact h.frozen j hj, by simpa [World.setCell] using h.lt⟩
  rw [World.cell?_setCell_other _ _ _ _ (by intro q; injection q with q1 _; exact hne q1)]
  exact h.cells j hj
theorem BoolRow.same {w : World} {B n : Nat} {f g : Nat → Bool} (h : BoolRow w B n f) (hg : ∀ j, j < n → g j = f j) : BoolRow w B n g := ⟨fun j hj => by rw [hg j hj]; exact h.cells j hj, h.frozen, h.lt⟩
theorem BoolRow.below {w w' : World} {B n : Nat} {f : Nat → Bool} (h : BoolRow w B n f) (hb : Below w.heap.size w w') : BoolRow w' B n f :=
  ⟨fun j hj => (hb.cell (p := ⟨B, j, none⟩) h.lt).trans (h.cells j hj), fun j hj => (hb.frozen (p := ⟨B, j, none⟩) h.lt).trans (h.frozen j hj), Nat.lt_of_lt_of_le h.lt hb.size⟩

theorem info_bool : (Tryd.prog.info? 4).map (fun i => (i.zero, i.size, i.bytes)) = some (some (.bool false), 1, 1) := by kernel_rfl

theorem make_flags (w : World) (n : Nat) (hn : n ≤ 5864062014805) :
    ∃ w1, (Instr.makeSlice 59 (.int .i64 (n : Int)) (.int .i64 (n : Int))).run Tryd.prog w = .ok (.slice (some ⟨w.heap.size, 0, none⟩) n n) w1 ∧
      Below w.heap.size w w1 ∧ w1.heap.size = w.heap.size + 1 ∧ BoolRow w1 w.heap.size n (fun _ => false) := by
  obtain ⟨i0, hi, hz0, hz1, hz2⟩ := info_parts info_bool
  have h := run_make (P := Tryd.prog) w 59 4 i0 (.bool false) Tryd.underlying59 hi hz0 .i64 .i64 n n (by omega) (by omega) (by rw [hz2]; omega) (by omega)
  simp only [Int.toNat_natCast] at h
  refine ⟨_, h, (Below.refl _ _).alloc (Nat.le_refl _) _, by simp, ⟨fun j hj => ?_, fun j hj => ?_, by simp⟩⟩
  · rw [World.cell?_alloc_at _ _ _ _ rfl]
    simp [madeCells, hz1, Value.cells, hj, Nat.mod_one]
  · exact World.frozen?_alloc_at _ _ _ _ rfl

end Go.Proofs.YteoofibhpifmlaaDoor
