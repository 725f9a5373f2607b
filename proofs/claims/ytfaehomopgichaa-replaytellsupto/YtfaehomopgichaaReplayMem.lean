/- What is told of a replay, in memory. -/
import Derived.Test.YtfaehomopgichaaGr05
import Derived.Test.YtfaehomopgichaaMarked
namespace Go.Proofs.Ytfaehomopgichaa
open Go.RowKit
set_option linter.unusedVariables false
set_option linter.unusedSimpArgs false
set_option maxRecDepth 4000

def playA (p : PlayL) : Array Value := #[.int .i64 p.put, .int .i64 p.taken, .int .i64 p.lacked, .int .i64 p.left]
def playV (p : PlayL) : Value := .agg (playA p)
/-- A box for it. -/
def PlayAt (w : World) (b : Nat) (p : PlayL) : Prop := w.heap[b]? = some (.cells (playA p) 27 (0, 0))
theorem PlayAt.lt {w : World} {b : Nat} {p : PlayL} (h : PlayAt w b p) : b < w.heap.size := (Array.getElem?_eq_some_iff.1 h).1
theorem PlayAt.below {w w' : World} {b n : Nat} {p : PlayL} (h : PlayAt w b p) (hb : Below n w w') (hn : b < n) : PlayAt w' b p := (hb.block b hn).trans h
theorem PlayAt.cells {w : World} {b : Nat} {p : PlayL} (h : PlayAt w b p) : w.cell? ⟨b, 0, none⟩ = some (.int .i64 p.put) ∧ w.cell? ⟨b, 1, none⟩ = some (.int .i64 p.taken) ∧ w.cell? ⟨b, 2, none⟩ = some (.int .i64 p.lacked) ∧ w.cell? ⟨b, 3, none⟩ = some (.int .i64 p.left) ∧ w.frozen? ⟨b, 0, none⟩ = false ∧ w.frozen? ⟨b, 1, none⟩ = false ∧ w.frozen? ⟨b, 2, none⟩ = false ∧ w.frozen? ⟨b, 3, none⟩ = false := by
  unfold PlayAt at h
  simp [World.cell?, World.frozen?, h, playA]
theorem playAt_new (w : World) (p : PlayL) : PlayAt (w.alloc (.cells (playA p) 27)) w.heap.size p := heap_alloc_at w _
theorem PlayAt.put {w : World} {b : Nat} {p : PlayL} (h : PlayAt w b p) (p' : PlayL) : ∃ W, Hid ((((w.setCell ⟨b, 0, none⟩ (.int .i64 p'.put)).setCell ⟨b, 1, none⟩ (.int .i64 p'.taken)).setCell ⟨b, 2, none⟩ (.int .i64 p'.lacked)).setCell ⟨b, 3, none⟩ (.int .i64 p'.left) = W) ∧ PlayAt W b p' ∧ Below b w W := by
  refine ⟨_, rfl, ?_, ((((Below.refl _ _).setCell (p := ⟨b, 0, none⟩) (Nat.le_refl _) _).setCell (p := ⟨b, 1, none⟩) (Nat.le_refl _) _).setCell (p := ⟨b, 2, none⟩) (Nat.le_refl _) _).setCell (p := ⟨b, 3, none⟩) (Nat.le_refl _) _⟩
  exact setCell_blockM (setCell_blockM (setCell_blockM (setCell_blockM h _) _) _) _
theorem results_play {fn : Func} {p q : Tmp} {tmps : Array Value} {w : World} {b : Nat} {r : PlayL} {e : Value} (h : fn.results = #[.cell p 27, .tmp q]) (hp : tmps.getD p undef = .pointer (some ⟨b, 0, none⟩)) (hq : tmps.getD q undef = e) (hr : PlayAt w b r) :
    (results fn tmps).run Try.prog w = .ok (.tuple #[playV r, e]) w := by
  obtain ⟨h1, h2, h3, h4, _⟩ := hr.cells
  rw [results_cell_tmp h, hp, hq]
  simp [asAddr, go_sem, h1, h2, h3, h4, playV, playA]

end Go.Proofs.Ytfaehomopgichaa
